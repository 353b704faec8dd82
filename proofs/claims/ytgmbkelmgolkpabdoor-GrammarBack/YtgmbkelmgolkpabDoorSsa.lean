/- A set for each symbol, in one row; passes over rules that let them grow. -/
import Derived.Test.YtgmbkelmgolkpabDoorGmg
import Derived.Test.YtgmbkelmgolkpabDoorEqt
import Derived.Deep.WholeRow
import Derived.Laws.Alloc2
namespace Go.Proofs.YtgmbkelmgolkpabDoor
open Go.RowKit
set_option linter.unusedVariables false

/-- The words of a row of sets. -/
def wS (S : Nat → Nat) (i : Nat) : Nat := if i % 2 = 0 then lw (S (i / 2)) else hw (S (i / 2))
def ssC (S : Nat → Nat) : Array Value := ((List.range 256).map fun i => Value.int .u64 (wS S i : Int)).toArray
theorem ss_size (S : Nat → Nat) : (ssC S).size = 256 := by simp [ssC]
theorem ss_get (S : Nat → Nat) {i : Nat} (h : i < 256) : (ssC S)[i]? = some (.int .u64 (wS S i : Int)) := by
  unfold ssC
  rw [List.getElem?_toArray, List.getElem?_map, List.getElem?_range h]; rfl
theorem ss_one (S : Nat → Nat) : (ssC S).all (·.oneCell') = true := by
  rw [Array.all_eq_true_iff_forall_mem]
  intro v hv
  simp only [ssC, List.mem_toArray, List.mem_map] at hv
  obtain ⟨i, _, rfl⟩ := hv; rfl
theorem wS_even (S : Nat → Nat) (x : Nat) : wS S (x * 2) = lw (S x) := by unfold wS; rw [if_pos (by omega), show x * 2 / 2 = x by omega]
theorem wS_odd (S : Nat → Nat) (x : Nat) : wS S (x * 2 + 1) = hw (S x) := by unfold wS; rw [if_neg (by omega), show (x * 2 + 1) / 2 = x by omega]
theorem ss_in {S : Nat → Nat} {x : Nat} (hx : x < 128) (h : S x < Top) : SetIn (ssC S) (x * 2) (S x) := ⟨h, by rw [ss_get S (by omega), wS_even], by rw [ss_get S (by omega), wS_odd]⟩
def upd (S : Nat → Nat) (x M : Nat) : Nat → Nat := fun y => if y = x then M else S y
theorem upd_same (S : Nat → Nat) (x M : Nat) : upd S x M x = M := if_pos rfl
theorem upd_other {S : Nat → Nat} {x y M : Nat} (h : y ≠ x) : upd S x M y = S y := if_neg h
theorem ss_set {S : Nat → Nat} {x M : Nat} (hx : x < 128) (h : M < Top) : setC (ssC S) (x * 2) M = ssC (upd S x M) := by
  apply Array.ext_getElem?
  intro i
  by_cases hi : i < 256
  · have h2 := setC_same (cs := ssC S) (o := x * 2) (by rw [ss_size]; omega) h
    rw [ss_get _ hi]
    by_cases h0 : i = x * 2
    · subst h0; rw [h2.c0, wS_even, upd_same]
    · by_cases h1 : i = x * 2 + 1
      · subst h1; rw [h2.c1, wS_odd, upd_same]
      · rw [setC_other _ _ _ _ h0 h1, ss_get S hi]
        have : i / 2 ≠ x := by omega
        unfold wS; rw [upd_other this]
  · rw [Array.getElem?_eq_none (by rw [setC_size, ss_size]; omega), Array.getElem?_eq_none (by rw [ss_size]; omega)]
theorem ss_ext {S T : Nat → Nat} (h : ∀ x, x < 128 → S x = T x) : ssC S = ssC T := by
  apply Array.ext_getElem?
  intro i
  by_cases hi : i < 256
  · rw [ss_get _ hi, ss_get _ hi]
    unfold wS; rw [h (i / 2) (by omega)]
  · rw [Array.getElem?_eq_none (by rw [ss_size]; omega), Array.getElem?_eq_none (by rw [ss_size]; omega)]
theorem ss_ws {S : Nat → Nat} (h : ∀ x, x < 128 → S x < Top) : WsIn (ssC S) (wS S) := ⟨ss_size S, fun i hi => ⟨by
  unfold wS
  split
  · exact lw_lt _
  · exact hw_lt (h _ (by omega)), ss_get S hi⟩⟩
theorem ws_eq {S T : Nat → Nat} : (∀ i, i < 256 → wS S i = wS T i) ↔ ∀ x, x < 128 → S x = T x := by
  constructor
  · intro h x hx
    have h1 := h (x * 2) (by omega)
    have h2 := h (x * 2 + 1) (by omega)
    rw [wS_even, wS_even] at h1
    rw [wS_odd, wS_odd] at h2
    rw [← lw_hw (S x), ← lw_hw (T x), h1, h2]
  · intro h i hi
    unfold wS; rw [h _ (by omega)]
theorem Tryd.zero66 : (Tryd.prog.info? 66).map (fun i => (i.zero, i.size)) = some (some (.agg (ssC fun _ => 0)), 256) := by kernel_rfl
/-- The set of x that lies in a row. -/
def rdX (w : World) (g x : Nat) : Nat := match w.cell? ⟨g, x * 2, none⟩, w.cell? ⟨g, x * 2 + 1, none⟩ with
  | some (.int _ a), some (.int _ b) => a.toNat + b.toNat * 18446744073709551616
  | _, _ => 0
theorem rdX_of {w : World} {g : Nat} {S : Nat → Nat} {t : TypeId} (hc : CsAt w g (ssC S) t) {x : Nat} (hx : x < 128) : rdX w g x = S x := by
  unfold rdX
  rw [hc.cell, hc.cell, ss_get S (by omega), ss_get S (by omega), wS_even, wS_odd]
  simp only [Int.toNat_natCast]
  exact lw_hw _
/-- How much is not there yet. -/
def msS (f : Nat → Nat) : Nat → Nat
  | 0 => 0
  | k + 1 => msS f k + (Top - f k)
theorem ms_congr {f g : Nat → Nat} : ∀ k, (∀ x, x < k → f x = g x) → msS f k = msS g k
  | 0, _ => rfl
  | k + 1, h => by rw [msS, msS, ms_congr k (fun x hx => h x (by omega)), h k (by omega)]
theorem ms_le {f g : Nat → Nat} : ∀ k, (∀ x, x < k → f x ≤ g x) → msS g k ≤ msS f k
  | 0, _ => Nat.le_refl _
  | k + 1, h => by
    have h1 := ms_le k (fun x hx => h x (by omega))
    have h2 := h k (by omega)
    rw [msS, msS]; omega
theorem ms_lt {f g : Nat → Nat} : ∀ k, (∀ x, x < k → f x ≤ g x) → (∀ x, x < k → g x < Top) → (∃ x, x < k ∧ f x ≠ g x) → msS g k < msS f k
  | 0, _, _, ⟨x, hx, _⟩ => by omega
  | k + 1, h, ht, ⟨x, hx, hne⟩ => by
    have h2 := h k (by omega)
    have h3 := ht k (by omega)
    rw [msS, msS]
    by_cases hk : x = k
    · subst hk
      have h1 := ms_le x (fun y hy => h y (by omega))
      omega
    · have h1 := ms_lt k (fun y hy => h y (by omega)) (fun y hy => ht y (by omega)) ⟨x, by omega, hne⟩
      omega
/-- What begins, at first: each terminal with itself. -/
def biS (k : Nat) : Nat → Nat := fun x => if x < k then 2 ^ x else 0
theorem bi_next (k : Nat) : upd (biS k) k (2 ^ k) = biS (k + 1) := by
  funext x
  unfold upd biS
  by_cases h : x = k
  · subst h; rw [if_pos rfl, if_pos (by omega)]
  · rw [if_neg h]
    by_cases h2 : x < k
    · rw [if_pos h2, if_pos (by omega)]
    · rw [if_neg h2, if_neg (by omega)]
theorem bi_top {k : Nat} (hk : k ≤ 128) (x : Nat) : biS k x < Top := by
  unfold biS; split
  · exact two_top (by omega)
  · show 0 < Top; decide
theorem bi_self (k : Nat) : biS k k = 0 := by unfold biS; rw [if_neg (by omega)]
/-- A rule's left one begins as the first q right ones do, as long as they can be nothing. -/
def bqTo (nul l : Nat) (r : List Int) (S : Nat → Nat) : Nat → Nat → Nat
  | 0 => S
  | q + 1 => if (r.take q).all (fun x => nul.testBit x.toNat) then upd (bqTo nul l r S q) l (bqTo nul l r S q l ||| bqTo nul l r S q (r.getD q 0).toNat) else bqTo nul l r S q
theorem bq_stop {nul l : Nat} {r : List Int} {S : Nat → Nat} {q : Nat} (hq : q < r.length) (h : nul.testBit (r.getD q 0).toNat = false) : ∀ m, q + 1 ≤ m → bqTo nul l r S m = bqTo nul l r S (q + 1)
  | 0, hm => by omega
  | m + 1, hm => by
    by_cases e : q = m
    · rw [e]
    · rw [bqTo, if_neg, bq_stop hq h m (by omega)]
      intro ha
      rw [List.all_eq_true] at ha
      have := ha (r.getD q 0) (by
        rw [List.getD_eq_getElem?_getD, List.getElem?_eq_getElem hq]
        exact List.mem_take_iff_getElem.2 ⟨q, by omega, rfl⟩)
      rw [h] at this; cases this
/-- One pass over the first k rules. -/
def bpTo (R : List (Nat × List Int)) (nul : Nat) (S : Nat → Nat) : Nat → Nat → Nat
  | 0 => S
  | k + 1 => bqTo nul (R.getD k (0, [])).1 (R.getD k (0, [])).2 (bpTo R nul S k) (R.getD k (0, [])).2.length
def bpIt (R : List (Nat × List Int)) (nul : Nat) (S : Nat → Nat) : Nat → Nat → Nat
  | 0 => S
  | j + 1 => bpTo R nul (bpIt R nul S j) R.length
/-- What begins: passes until none adds. -/
def BgIs (R : List (Nat × List Int)) (nul T : Nat) (X : Nat → Nat) : Prop := ∃ j, X = bpIt R nul (biS T) j ∧ ∀ x, x < 128 → bpTo R nul X R.length x = X x
theorem bq_ge (nul l : Nat) (r : List Int) (S : Nat → Nat) (x : Nat) : ∀ q, S x ≤ bqTo nul l r S q x
  | 0 => Nat.le_refl _
  | q + 1 => by
    have := bq_ge nul l r S x q
    rw [bqTo]; split
    · by_cases h : x = l
      · subst h; rw [upd_same]; exact Nat.le_trans this Nat.left_le_or
      · rw [upd_other h]; exact this
    · exact this
theorem bq_top {nul l : Nat} {r : List Int} {S : Nat → Nat} (hS : ∀ x, S x < Top) : ∀ q x, bqTo nul l r S q x < Top
  | 0, x => hS x
  | q + 1, x => by
    rw [bqTo]; split
    · by_cases h : x = l
      · subst h; rw [upd_same]; exact or_top (bq_top hS q _) (bq_top hS q _)
      · rw [upd_other h]; exact bq_top hS q x
    · exact bq_top hS q x
theorem bp_ge (R : List (Nat × List Int)) (nul : Nat) (S : Nat → Nat) (x : Nat) : ∀ k, S x ≤ bpTo R nul S k x
  | 0 => Nat.le_refl _
  | k + 1 => Nat.le_trans (bp_ge R nul S x k) (bq_ge _ _ _ _ x _)
theorem bp_top {R : List (Nat × List Int)} {nul : Nat} {S : Nat → Nat} (hS : ∀ x, S x < Top) : ∀ k x, bpTo R nul S k x < Top
  | 0, x => hS x
  | k + 1, x => bq_top (bp_top hS k) _ x
end Go.Proofs.YtgmbkelmgolkpabDoor
