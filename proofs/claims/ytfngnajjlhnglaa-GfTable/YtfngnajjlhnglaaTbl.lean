/- What Words and Rule of the program and Rule of the document answer. -/
import Derived.Test.YtfngnajjlhnglaaAlv
namespace Go.Proofs.Ytfngnajjlhnglaa
open Go.RowKit
set_option linter.unusedVariables false

theorem ord_own : ordS 27 3 = 255 := by decide +kernel
theorem irr_own : irrS (256 + (27 : UInt8).toNat) = true := by decide +kernel
/-- A word of the table. -/
def tabT (n : Nat) : Nat := (pw 27 3 n).toNat + 256 * lgTo 27 3 255 n
/-- The words, k powers being put in. -/
def ruleF (k i : Nat) : Nat := (if i < k then (pw 27 3 i).toNat else 0) + 256 * lgTo 27 3 (min k 255) i
def ruleG (k i : Nat) : Nat := (if i < k + 1 then (pw 27 3 i).toNat else 0) + 256 * lgTo 27 3 (min k 255) i
theorem lgTo_new {P g : UInt8} (h : ordS P g = 255) {n : Nat} (hn : n < 255) : ∀ k, k ≤ n → lgTo P g k (pw P g n).toNat = 0
  | 0, _ => rfl
  | k + 1, hk => by
    unfold lgTo
    rw [if_neg (fun he => by have := pw_inj h (i := n) (j := k) hn (by omega) (UInt8.toNat.inj he); omega), lgTo_new h hn k (by omega)]
theorem ruleF_end (i : Nat) (hi : i < 256) : ruleF 256 i = tabT i := by
  unfold ruleF tabT
  rw [if_pos hi]; rfl
theorem ruleG_of (k : Nat) : (fun i => if i = k then (pw 27 3 k).toNat + 256 * lgTo 27 3 (min k 255) k else ruleF k i) = ruleG k := by
  funext i
  unfold ruleG ruleF
  by_cases h : i = k
  · subst h; rw [if_pos rfl, if_pos (by omega)]
  · rw [if_neg h]
    by_cases h2 : i < k
    · rw [if_pos h2, if_pos (by omega)]
    · rw [if_neg h2, if_neg (by omega)]
theorem ruleF_of (k : Nat) (hk : k < 255) : (fun i => if i = (pw 27 3 k).toNat then (if (pw 27 3 k).toNat < k + 1 then (pw 27 3 (pw 27 3 k).toNat).toNat else 0) + 256 * k else ruleG k i) = ruleF (k + 1) := by
  funext i
  unfold ruleG ruleF
  rw [show min (k + 1) 255 = k + 1 by omega, show min k 255 = k by omega]
  by_cases h : i = (pw 27 3 k).toNat
  · rw [if_pos h, lgTo, if_pos h, h]
  · rw [if_neg h, lgTo, if_neg h]
theorem ruleF_last : ruleG 255 = ruleF 256 := by
  funext i
  unfold ruleG ruleF
  rfl
theorem ruleF_old (k : Nat) (hk : k < 256) : ruleF k k = 256 * lgTo 27 3 (min k 255) k := by
  unfold ruleF; rw [if_neg (Nat.lt_irrefl _), Nat.zero_add]
theorem ruleG_old (k : Nat) (hk : k < 255) : ruleG k (pw 27 3 k).toNat = (if (pw 27 3 k).toNat < k + 1 then (pw 27 3 (pw 27 3 k).toNat).toNat else 0) := by
  unfold ruleG; rw [show min k 255 = k by omega, lgTo_new ord_own hk k (Nat.le_refl _)]; omega
theorem ruleF_zero : ruleF 0 = fun _ => 0 := by
  funext i; unfold ruleF; rw [if_neg (Nat.not_lt_zero _)]; rfl
theorem lgTo_le (P g : UInt8) (k a : Nat) (hk : k ≤ 255) : lgTo P g k a < 256 := by have := lgTo_lt P g a k; omega
theorem or_hi {E L : Nat} (hE : E < 256) (hL : L < 256) : bits .or .u32 ((256 * L : Nat) : Int) (E : Int) = ((E + 256 * L : Nat) : Int) := by
  rw [u32_or_nat _ _ (by omega) (by omega), nat_join 8 _ _ (by omega) (by omega), Nat.add_comm]
theorem or_lo {E L : Nat} (hE : E < 256) (hL : L < 256) : bits .or .u32 (E : Int) ((L : Int) * 256) = ((E + 256 * L : Nat) : Int) := by
  rw [show (L : Int) * 256 = ((256 * L : Nat) : Int) by omega, u32_or_nat _ _ (by omega) (by omega), Nat.or_comm, nat_join 8 _ _ (by omega) (by omega), Nat.add_comm]
/-- A block holds these words. -/
def RowU (w : World) (g : Nat) (f : Nat → Nat) : Prop := w.heap[g]? = some (.cells (rowF .u32 256 f) (62 : TypeId) (0, 0))
theorem RowU.lt {w : World} {g : Nat} {f : Nat → Nat} (h : RowU w g f) : g < w.heap.size := row_lt h
theorem RowU.cell {w : World} {g : Nat} {f : Nat → Nat} (h : RowU w g f) {k : Nat} (hk : k < 256) : w.cell? ⟨g, k, none⟩ = some (.int .u32 (f k : Int)) := by
  rw [cell_of_row _ _ _ _ _ _ h]; exact rowF_get _ _ _ _ hk
theorem RowU.frozen {w : World} {g : Nat} {f : Nat → Nat} (h : RowU w g f) (k : Nat) : w.frozen? ⟨g, k, none⟩ = false := frozen_of_row _ _ _ _ _ h
theorem RowU.set {w : World} {g : Nat} {f : Nat → Nat} (h : RowU w g f) {k : Nat} (hk : k < 256) (v : Nat) : RowU (w.setCell ⟨g, k, none⟩ (.int .u32 (v : Int))) g (fun i => if i = k then v else f i) := by
  unfold RowU
  rw [heap_setCell_same w g k _ _ _ h, rowF_set _ _ _ _ _ hk]
theorem RowU.below {w w' : World} {g n : Nat} {f : Nat → Nat} (h : RowU w g f) (hb : Below n w w') (hn : g < n) : RowU w' g f := (hb.block g hn).trans h
theorem RowU.next {w w' : World} {g : Nat} {f : Nat → Nat} (h : RowU w g f) (hb : Below w.heap.size w w') : RowU w' g f := h.below hb h.lt
theorem Try.info62 : (Try.prog.info? 62).map (fun i => (i.zero, i.size, i.bytes)) = some (some (.int .u32 0), 1, 4) := by kernel_rfl
theorem map_same (n : Nat) (v : Value) : (List.range n).map (fun _ => v) = List.replicate n v := by rw [List.map_const', List.length_range]
theorem rowU_of_made {w : World} {base g : Nat} (h : w.ownsRow base 62 1 (.slice (some ⟨g, 0, none⟩) 256 256) 256 (madeCells (Value.cells (.int .u32 0)) (256 * 1)).toList) : RowU w g (fun _ => 0) := by
  have := row_full h
  rw [Nat.mul_one, show Value.cells (.int .u32 0) = #[.int .u32 0] from rfl, toList_madeCells_one] at this
  unfold RowU rowF
  rw [this, show (List.range 256).map (fun _ => Value.int .u32 ((0 : Nat) : Int)) = List.replicate 256 (Value.int .u32 0) from map_same 256 _]

set_option maxRecDepth 100000 in
set_option maxHeartbeats 800000 in
theorem rule_any (w : World) : Calls Try.prog 42 #[] w fun e w' => ∃ g, e = .returned (.slice (some ⟨g, 0, none⟩) 256 256) ∧ w.heap.size ≤ g ∧ RowU w' g (ruleF 256) ∧ Below w.heap.size w w' := by
  have HC : Hid (∀ k w, Calls Try.prog 9 #[.int .u8 ((pw 27 3 k).toNat : Int), .int .u8 3, .int .i64 283] w fun e w' => e = .returned (.int .u8 ((pw 27 3 (k + 1)).toNat : Int)) ∧ w' = w) := fun k w => carry_in 27 (pw 27 3 k) 3 283 rfl w
  obtain ⟨i0, hi, hz0, hz1, hz2⟩ := info_parts Try.info62
  go_enter Try.func42, Try.ntmps42
  go_wp2_with (at_make; refine wpList_make_full _ rfl _ _ 59 rfl w.heap.size 62 i0 (.int .u32 0) 1 Try.underlying59 hi hz0 hz1 _ _ _ _ 256 rfl rfl rfl rfl (by rw [hz2]; omega) (by unfold maxLen; omega) (Nat.le_refl _) ?_; intro w3 hown3 hg3; have HR3 := hidD (rowU_of_made hown3); have HB3 : Hid (Below w.heap.size w w3) := ((Below.refl w.heap.size w).grown hg3 (Nat.le_refl _) (fun k hk => by cases hk)); clear hown3 hg3)
  have HR0 : Hid (RowU w3 w.heap.size (ruleF 0)) := by rw [ruleF_zero]; exact HR3.out
  generalize hg : w.heap.size = g at *
  have HG := hidD hg
  clear hg
  go_loopw [2, 7] (fun x i wr => ∃ k : Nat, k ≤ 256 ∧ i = .int .i64 k ∧ x = .int .u8 ((pw 27 3 k).toNat : Int) ∧ RowU wr g (ruleF k) ∧ Below g w3 wr) (fun _ i _ => 256 - (intOf i).toNat)
  case atStart => exact ⟨0, Nat.zero_le _, rfl, rfl, HR0.out, Below.refl _ _⟩
  case round =>
    obtain ⟨k, hk, rfl, rfl, hrow, hbel⟩ := hrel
    have HBL := hidD hbel
    by_cases hlt : k < 256
    · have hlti : (k : Int) < 256 := by omega
      have hE := u8_lt (pw 27 3 k)
      have hL := lgTo_le 27 3 (min k 255) k (by omega)
      have hc1 : wr.cell? ⟨g, k, none⟩ = some (.int .u32 ((256 * lgTo 27 3 (min k 255) k : Nat) : Int)) := by rw [hrow.cell hlt, ruleF_old k hlt]
      have hf1 := hrow.frozen k
      have ho1 := or_hi hE hL
      have hr1 := hrow.set hlt ((pw 27 3 k).toNat + 256 * lgTo 27 3 (min k 255) k)
      rw [ruleG_of] at hr1
      have HR1 := hidD hr1
      have HCk := hidD (HC.out k)
      have HX : Hid (((pw 27 3 (k + 1)).toNat : Int) = ((pw 27 3 (k + 1)).toNat : Int)) := rfl
      by_cases hl5 : k < 255
      · have hl5i : (k : Int) < 255 := by omega
        have hc2 := hr1.cell (k := (pw 27 3 k).toNat) hE
        rw [ruleG_old k hl5] at hc2
        have hf2 := hr1.frozen (pw 27 3 k).toNat
        have hE2 : (if (pw 27 3 k).toNat < k + 1 then (pw 27 3 (pw 27 3 k).toNat).toNat else 0) < 256 := by split; exact u8_lt _; omega
        have ho2 := or_lo (L := k) hE2 (by omega)
        have hr2 := hr1.set (k := (pw 27 3 k).toNat) hE ((if (pw 27 3 k).toNat < k + 1 then (pw 27 3 (pw 27 3 k).toNat).toNat else 0) + 256 * k)
        rw [ruleF_of k hl5] at hr2
        have HR2 := hidD hr2
        clear hr1 hr2 hrow hbel HX
        generalize (if (pw 27 3 k).toNat < k + 1 then (pw 27 3 (pw 27 3 k).toNat).toNat else 0) + 256 * k = v2 at *
        generalize (if (pw 27 3 k).toNat < k + 1 then (pw 27 3 (pw 27 3 k).toNat).toNat else 0) = E2 at *
        generalize (pw 27 3 k).toNat + 256 * lgTo 27 3 (min k 255) k = v1 at *
        generalize 256 * lgTo 27 3 (min k 255) k = o1 at *
        generalize (pw 27 3 k).toNat = x at *
        go_wp2_with (go_at_call 9; refine (HCk.out _).mono ?_; rintro e w5 ⟨rfl, hb5⟩)
        go_roundw
        case rel => exact ⟨k + 1, by omega, by go_num, rfl, HR2.out, (HBL.out.setCell (p := ⟨g, k, none⟩) (Nat.le_refl _) _).setCell (p := ⟨g, x, none⟩) (Nat.le_refl _) _⟩
        case measure => simp [intOf]; omega
      · obtain rfl : k = 255 := by omega
        rw [ruleF_last] at HR1
        clear hr1 hrow hbel HX
        generalize (pw 27 3 255).toNat + 256 * lgTo 27 3 (min 255 255) 255 = v1 at *
        generalize 256 * lgTo 27 3 (min 255 255) 255 = o1 at *
        generalize (pw 27 3 255).toNat = x at *
        go_wp2_with (go_at_call 9; refine (HCk.out _).mono ?_; rintro e w5 ⟨rfl, hb5⟩)
        go_roundw
        case rel => exact ⟨255 + 1, by omega, by go_num, rfl, HR1.out, HBL.out.setCell (p := ⟨g, 255, none⟩) (Nat.le_refl _) _⟩
        case measure => simp [intOf]
    · obtain rfl : k = 256 := by omega
      have HRW := hidD hrow
      clear hrow hbel
      generalize ((pw 27 3 256).toNat : Int) = x at *
      go_wp2_with fail
      go_ret
      exact ⟨g, rfl, by rw [HG.out]; exact Nat.le_refl _, HRW.out, by rw [HG.out]; exact HB3.out.trans HBL.out⟩

set_option maxRecDepth 100000 in
set_option maxHeartbeats 800000 in
theorem refRule_any (w : World) : Calls Try.prog 43 #[] w fun e w' => ∃ g, e = .returned (.slice (some ⟨g, 0, none⟩) 256 256) ∧ w.heap.size ≤ g ∧ RowU w' g (ruleF 256) ∧ Below w.heap.size w w' := by
  have HC : Hid (∀ k c w, RfAt w c 27 3 → Calls Try.prog 27 #[.pointer (some ⟨c, 0, none⟩), .int .u8 ((pw 27 3 k).toNat : Int), .int .u8 3] w fun e w' => e = .returned (.int .u8 ((pw 27 3 (k + 1)).toNat : Int)) ∧ w' = w) := fun k c w h => refMul_any (pw 27 3 k) 3 w h
  have HNW := hidD (fun t => RfAt.new w 27 3 283 rfl t)
  have HAL : Hid (∀ o, Below w.heap.size w (w.alloc o)) := fun o => (Below.refl _ _).alloc (Nat.le_refl _) o
  obtain ⟨i0, hi, hz0, hz1, hz2⟩ := info_parts Try.info62
  rw [show (((3 : UInt8).toNat : Nat) : Int) = 3 from rfl] at HNW
  go_enter Try.func43, Try.ntmps43
  go_wp2_with (at_make; refine wpList_make_full _ rfl _ _ 59 rfl w.heap.size 62 i0 (.int .u32 0) 1 Try.underlying59 hi hz0 hz1 _ _ _ _ 256 rfl rfl rfl rfl (by rw [hz2]; omega) (by unfold maxLen; omega) (HAL.out _).size ?_; intro w3 hown3 hg3; have HR3 := hidD (rowU_of_made hown3); have HB3 := hidD ((Below.refl _ _).grown hg3 (Nat.le_refl _) (fun k hk => by cases hk)); clear hown3 hg3)
  have HRF := hidD (((HNW.out _).next HB3.out))
  have HBW := hidD (Below.next (HAL.out _) HB3.out)
  have HR0 : Hid (RowU w3 (w.heap.size + 1) (ruleF 0)) := by show RowU w3 (w.heap.size + 1) (ruleF 0); rw [ruleF_zero]; have := HR3.out; simpa using this
  clear HB3 HR3
  generalize hg : w.heap.size + 1 = g at *
  have HG := hidD hg
  clear hg
  go_loopw [3, 4] (fun x i wr => ∃ k : Nat, k ≤ 255 ∧ i = .int .i64 k ∧ x = .int .u8 ((pw 27 3 k).toNat : Int) ∧ RowU wr g (ruleF k) ∧ Below g w3 wr) (fun _ i _ => 255 - (intOf i).toNat)
  case atStart => exact ⟨0, Nat.zero_le _, rfl, rfl, HR0.out, Below.refl _ _⟩
  case round =>
    obtain ⟨k, hk, rfl, rfl, hrow, hbel⟩ := hrel
    have HBL := hidD hbel
    have hE := u8_lt (pw 27 3 k)
    have hL := lgTo_le 27 3 (min k 255) k (by omega)
    have hc1 : wr.cell? ⟨g, k, none⟩ = some (.int .u32 ((256 * lgTo 27 3 (min k 255) k : Nat) : Int)) := by rw [hrow.cell (by omega), ruleF_old k (by omega)]
    have hf1 := hrow.frozen k
    have ho1 := or_hi hE hL
    have hr1 := hrow.set (k := k) (by omega) ((pw 27 3 k).toNat + 256 * lgTo 27 3 (min k 255) k)
    rw [ruleG_of] at hr1
    have HR1 := hidD hr1
    have HRW := hidD (HRF.out.below hbel (by have := HG.out; omega))
    by_cases hlt : k < 255
    · have hlti : (k : Int) < 255 := by omega
      have hlt6 : (k : Int) < 256 := by omega
      have HCk := hidD (HC.out k)
      have hc2 := hr1.cell (k := (pw 27 3 k).toNat) hE
      rw [ruleG_old k hlt] at hc2
      have hf2 := hr1.frozen (pw 27 3 k).toNat
      have hE2 : (if (pw 27 3 k).toNat < k + 1 then (pw 27 3 (pw 27 3 k).toNat).toNat else 0) < 256 := by split; exact u8_lt _; omega
      have ho2 := or_lo (L := k) hE2 (by omega)
      have hr2 := hr1.set (k := (pw 27 3 k).toNat) hE ((if (pw 27 3 k).toNat < k + 1 then (pw 27 3 (pw 27 3 k).toNat).toNat else 0) + 256 * k)
      rw [ruleF_of k hlt] at hr2
      have HR2 := hidD hr2
      have HRX : Hid (∀ x v1 v2, RfAt ((wr.setCell ⟨g, k, none⟩ v1).setCell ⟨g, x, none⟩ v2) w.heap.size 27 3) := fun x v1 v2 => HRF.out.below ((hbel.setCell (p := ⟨g, k, none⟩) (Nat.le_refl _) v1).setCell (p := ⟨g, x, none⟩) (Nat.le_refl _) v2) (by have := HG.out; omega)
      clear hr1 hr2 hrow hbel HRW
      generalize (if (pw 27 3 k).toNat < k + 1 then (pw 27 3 (pw 27 3 k).toNat).toNat else 0) + 256 * k = v2 at *
      generalize (if (pw 27 3 k).toNat < k + 1 then (pw 27 3 (pw 27 3 k).toNat).toNat else 0) = E2 at *
      generalize (pw 27 3 k).toNat + 256 * lgTo 27 3 (min k 255) k = v1 at *
      generalize 256 * lgTo 27 3 (min k 255) k = o1 at *
      generalize (pw 27 3 k).toNat = x at *
      go_wp2_with (go_at_call 27; refine (HCk.out _ _ (HRX.out _ _ _)).mono ?_; rintro e w5 ⟨rfl, hb5⟩)
      go_roundw
      case rel => exact ⟨k + 1, by omega, by go_num, rfl, HR2.out, (HBL.out.setCell (p := ⟨g, k, none⟩) (Nat.le_refl _) _).setCell (p := ⟨g, x, none⟩) (Nat.le_refl _) _⟩
      case measure => simp [intOf]; omega
    · obtain rfl : k = 255 := by omega
      rw [ruleF_last] at HR1
      clear hr1 hrow hbel HRW
      generalize (pw 27 3 255).toNat + 256 * lgTo 27 3 (min 255 255) 255 = v1 at *
      generalize 256 * lgTo 27 3 (min 255 255) 255 = o1 at *
      generalize (pw 27 3 255).toNat = x at *
      go_wp2_with fail
      go_ret
      exact ⟨g, rfl, by have := HG.out; omega, HR1.out, HBW.out.trans ((HBL.out.setCell (p := ⟨g, 255, none⟩) (Nat.le_refl _) _).mono (by have := HG.out; omega))⟩

theorem words_val (n : Nat) (hn : n < 256) : bits .or .u32 ((pwI 27 3 (n : Int)).toNat : Int) (((lgTo 27 3 255 n : Nat) : Int) * 256) = ((ruleF 256 n : Nat) : Int) := by
  have h1 : pwI 27 3 (n : Int) = pw 27 3 n := by
    unfold pwI
    rw [show ((n : Int) % 255).toNat = n % 255 by omega, ← pw_mod ord_own]
  rw [h1, or_lo (u8_lt _) (lgTo_le 27 3 255 n (Nat.le_refl _)), ruleF_end n hn]; rfl
/-- The words of a table, k of them being laid. -/
def upTo (f : Nat → Nat) (k i : Nat) : Nat := if i < k then f i else 0
theorem upTo_next (f : Nat → Nat) (k : Nat) : (fun i => if i = k then f k else upTo f k i) = upTo f (k + 1) := by
  funext i
  unfold upTo
  by_cases h : i = k
  · subst h; rw [if_pos rfl, if_pos (by omega)]
  · rw [if_neg h]
    by_cases h2 : i < k
    · rw [if_pos h2, if_pos (by omega)]
    · rw [if_neg h2, if_neg (by omega)]
theorem upTo_all (kd : IntKind) (n : Nat) (f : Nat → Nat) : rowF kd n (upTo f n) = rowF kd n f := by
  unfold rowF
  congr 1
  apply List.map_congr_left
  intro i hi
  rw [upTo, if_pos (List.mem_range.mp hi)]
theorem rowU_all {w : World} {g : Nat} {f : Nat → Nat} (h : RowU w g (upTo f 256)) : RowU w g f := by
  unfold RowU at *
  rw [h, upTo_all]
set_option maxRecDepth 100000 in
set_option maxHeartbeats 800000 in
theorem words_any (w : World) : Calls Try.prog 41 #[] w fun e w' => ∃ g, e = .returned (.slice (some ⟨g, 0, none⟩) 256 256) ∧ w.heap.size ≤ g ∧ RowU w' g (ruleF 256) ∧ Below w.heap.size w w' := by
  have HF : Hid (∀ w, Calls Try.prog 51 #[.int .i64 283, .int .u8 3] w fun e w' => e = .returned (.agg (fldC 27 3 255)) ∧ Below w.heap.size w w') := fun w => fieldOf_any 27 3 283 rfl w
  obtain ⟨hz, hsz⟩ := zero_of_info Try.zero74
  have hs1 : (fldC 27 3 255).size = 511 := rowF_size _ _ _
  have hs0 : (rowF .u8 511 (fun _ => 0)).size = 511 := rowF_size _ _ _
  have HONE : Hid ((fldC 27 3 255).all (·.oneCell') = true) := rowF_one .u8 511 (fldF 27 3 255)
  have HFD : Hid (∀ (w' : World) (b : Nat), w'.heap[b]? = some (.cells (fldC 27 3 255) (74 : TypeId) (0, 0)) → FdAt w' b 27 3) := fun w' b h => h
  have hi7 : (Try.prog.info? 74).map (·.size) = some (fldC 27 3 255).size := by rw [hsz, hs1]
  generalize fldC 27 3 255 = C at *
  generalize rowF .u8 511 (fun _ => 0) = C0 at *
  obtain ⟨i0, hi, hz0, hz1, hz2⟩ := info_parts Try.info62
  go_enter Try.func41, Try.ntmps41
  go_wp2_with (first
    | (go_at_call 51; refine (HF.out _).mono ?_; rintro e w1 ⟨rfl, hb1⟩; have HB1 := hidD hb1; clear hb1)
    | (refine wpList_store_row rfl 74 _ _ rfl _ C rfl rfl 74 C0 (heap_alloc_last _ _) hi7 (by rw [hs0, hs1]) HONE.out ?_; have HF2 := hidD (HFD.out _ _ (setRow_heap _ _ C0 C 74 (0, 0) (heap_alloc_last w1 (.cells C0 (74 : TypeId))))); have HB2 := hidD (below_setRow (HB1.out.alloc HB1.out.size (.cells C0 (74 : TypeId))) HB1.out.size C); generalize (w1.alloc (.cells C0 (74 : TypeId))).setRow w1.heap.size C = w2 at *)
    | (at_make; refine wpList_make_full _ rfl _ _ 59 rfl w2.heap.size 62 i0 (.int .u32 0) 1 Try.underlying59 hi hz0 hz1 _ _ _ _ 256 rfl rfl rfl rfl (by rw [hz2]; omega) (by unfold maxLen; omega) (Nat.le_refl _) ?_; intro w3 hown3 hg3; have HR3 := hidD (rowU_of_made hown3); have HB3 : Hid (Below w2.heap.size w2 w3) := ((Below.refl _ _).grown hg3 (Nat.le_refl _) (fun k hk => by cases hk)); clear hown3 hg3))
  have HZ : Hid ((fun _ => 0 : Nat → Nat) = upTo (ruleF 256) 0) := by show _ = _; funext i; unfold upTo; rw [if_neg (Nat.not_lt_zero _)]
  have HR0 : Hid (RowU w3 w2.heap.size (upTo (ruleF 256) 0)) := by rw [← HZ.out]; exact HR3.out
  have HF3 := hidD (HF2.out.next HB3.out)
  have HNE : Hid (w1.heap.size ≠ w2.heap.size) := Nat.ne_of_lt HF2.out.lt
  have HGE : Hid (w2.heap.size < w3.heap.size) := HR3.out.lt
  generalize hg : w2.heap.size = g at *
  have HG := hidD hg
  clear hg
  generalize hb : w1.heap.size = b at *
  have HBB := hidD hb
  clear hb
  go_loopw [8] (fun i wr => ∃ k : Nat, k ≤ 256 ∧ i = .int .i64 k ∧ RowU wr g (upTo (ruleF 256) k) ∧ But g w3 wr) (fun i _ => 256 - (intOf i).toNat)
  case atStart => exact ⟨0, Nat.zero_le _, rfl, HR0.out, But.refl _ _⟩
  case round =>
    obtain ⟨k, hk, rfl, hrow, hbut⟩ := hrel
    have HBU := hidD hbut
    have HRW := hidD hrow
    by_cases hlt : k < 256
    · have hlti : (k : Int) < 256 := by omega
      have hfd := hbut.fd HF3.out HNE.out
      have HFW := hidD hfd
      have HE := hidD (fun w' (hb : Below wr.heap.size wr w') => exp_any (P := 27) (g := 3) (b := b) (k : Int) w' (hfd.next hb))
      have hcl : wr.cell? ⟨b, 255 + k, none⟩ = some (.int .u8 ((lgTo 27 3 255 k : Nat) : Int)) := by
        rw [hfd.cell _ (by omega), fldF, if_neg (by omega), show 255 + k - 255 = k by omega]
      have hL := lgTo_le 27 3 255 k (Nat.le_refl _)
      have hX := u8_lt (pwI 27 3 (k : Int))
      have hor := words_val k hlt
      have HCS := hidD hcl
      have HN := hidD (fun (w' : World) (h : RowU w' g (upTo (ruleF 256) k)) => h.set hlt (ruleF 256 k))
      simp only [upTo_next] at HN
      generalize ruleF 256 k = v at *
      generalize (pwI 27 3 (k : Int)).toNat = x at *
      generalize lgTo 27 3 255 k = L at *
      clear hfd hbut hrow
      go_wp2_with fail
      go_region_with (go_at_call 28; refine (HE.out _ ((Below.refl wr.heap.size wr).drew)).mono ?_; rintro e w4 ⟨rfl, hb4⟩; have hb5 : Below wr.heap.size wr w4 := ((Below.refl wr.heap.size wr).drew).trans hb4; have HR4 := hidD (HRW.out.next hb5); have HB4 := hidD hb5; have j8 : w4.cell? ⟨b, 255 + k, none⟩ = some (.int .u8 (L : Int)) := (hb5.cell (p := ⟨b, 255 + k, none⟩) HFW.out.lt).trans HCS.out; have f8 := HR4.out.frozen k; obtain ⟨c8, hc8⟩ : ∃ v, w4.cell? ⟨g, k, none⟩ = some v := ⟨_, HR4.out.cell (by omega)⟩; clear hb4 hb5)
      all_goals
        go_wp2
        go_roundw
        case rel => exact ⟨k + 1, by omega, by go_num, by rw [hor]; exact HN.out _ HR4.out, ((HBU.out.trans (But.of HB4.out (Nat.le_of_lt HRW.out.lt)))).put _ _⟩
        case measure => simp [intOf]; omega
    · obtain rfl : k = 256 := by omega
      clear hrow hbut
      go_wp2_with fail
      go_ret
      refine ⟨g, rfl, ?_, rowU_all HRW.out, ?_⟩
      · have := HB2.out.size; have := HG.out; omega
      · exact HB2.out.trans ((HB3.out.trans HBU.out.bel).mono (by have := HB2.out.size; have := HG.out; omega))
end Go.Proofs.Ytfngnajjlhnglaa
