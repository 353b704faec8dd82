/- What the document's Rule answers. -/
import Derived.Test.YtdbledfpphkppaaRfb
import Derived.Test.YtdbledfpphkppaaQuietL
namespace Go.Proofs.Ytdbledfpphkppaa
open Go.RowKit
set_option linter.unusedVariables false

def dbS (j : Nat) : Nat := (bm 27 (UInt8.ofNat j) 2).toNat
def lowW (j : Nat) : Nat := sbN j ||| dbS j * 65536 ||| rndS (j : Int) * 16777216
def ruT (k j : Nat) : Nat := (if j < k then lowW j else 0) ||| (if usN j < k then usN j * 256 else 0)
theorem or_swap (x a b c : Nat) : x ||| a ||| b ||| c = a ||| b ||| c ||| x := by
  rw [Nat.or_comm (a ||| b ||| c) x, Nat.or_assoc, Nat.or_assoc, Nat.or_assoc]
theorem ru_step {k : Nat} (hk : k < 256) {j : Nat} (hj : j < 256) :
    (if j = sbN k then (if sbN k = k then ruT k k ||| sbN k ||| dbS k * 65536 ||| rndS (k : Int) * 16777216 else ruT k (sbN k)) ||| k * 256 else if j = k then ruT k k ||| sbN k ||| dbS k * 65536 ||| rndS (k : Int) * 16777216 else ruT k j) = ruT (k + 1) j := by
  have hu := us_sb hk
  have hv := us_sb hj
  rw [if_neg hu.2.2.2.1]
  by_cases h1 : j = sbN k
  · subst h1
    have hne := hu.2.2.2.1
    rw [if_pos rfl]
    unfold ruT
    rw [hu.1, if_neg (show ¬ k < k by omega), if_pos (show k < k + 1 by omega), Nat.or_zero]
    by_cases h2 : sbN k < k
    · rw [if_pos h2, if_pos (by omega)]
    · rw [if_neg h2, if_neg (by omega)]
  · rw [if_neg h1]
    have hnk : usN j ≠ k := fun h => h1 (by rw [← h, hv.2.1])
    have e : (if usN j < k then usN j * 256 else 0) = (if usN j < k + 1 then usN j * 256 else 0) := by
      by_cases h3 : usN j < k
      · rw [if_pos h3, if_pos (by omega)]
      · rw [if_neg h3, if_neg (by omega)]
    by_cases h2 : j = k
    · subst h2
      rw [if_pos rfl]
      unfold ruT
      rw [if_neg (show ¬ j < j by omega), if_pos (show j < j + 1 by omega), Nat.zero_or, e, or_swap]; rfl
    · rw [if_neg h2]
      unfold ruT
      rw [e]
      congr 1
      by_cases h3 : j < k
      · rw [if_pos h3, if_pos (by omega)]
      · rw [if_neg h3, if_neg (by omega)]
theorem rnd_lt (n : Int) : rndS n < 256 := by unfold rndS; split; omega; exact (pw 27 2 _).toNat_lt
theorem db_lt (j : Nat) : dbS j < 256 := (bm 27 (UInt8.ofNat j) 2).toNat_lt
theorem low_lt (j : Nat) : lowW j < 4294967296 := by
  have h1 := sbN_lt j; have h2 := db_lt j; have h3 := rnd_lt (j : Int)
  exact or_lt32 (or_lt32 (by omega) (by omega)) (by omega)
theorem ru_lt {k j : Nat} (hk : k ≤ 256) : ruT k j < 4294967296 := by
  unfold ruT; refine or_lt32 ?_ ?_
  · split; exact low_lt j; omega
  · split <;> omega
theorem Try.info25 : (Try.prog.info? 25).map (fun i => (i.zero, i.size, i.bytes)) = some (some (.int .u32 0), 1, 4) := by kernel_rfl
theorem map_same (n : Nat) (v : Value) : (List.range n).map (fun _ => v) = List.replicate n v := by rw [List.map_const', List.length_range]
theorem rowZ_of_made {w : World} {base g : Nat} (h : w.ownsRow base 25 1 (.slice (some ⟨g, 0, none⟩) 256 256) 256 (madeCells (Value.cells (.int .u32 0)) (256 * 1)).toList) : RowZ w g .u32 256 25 (fun _ => 0) := by
  have := row_full h
  rw [Nat.mul_one, show Value.cells (.int .u32 0) = #[.int .u32 0] from rfl, toList_madeCells_one] at this
  unfold RowZ rowZ
  rw [this, show (List.range 256).map (fun _ => Value.int .u32 0) = List.replicate 256 (Value.int .u32 0) from map_same 256 _]

set_option maxRecDepth 100000 in
set_option maxHeartbeats 1600000 in
theorem refRule_any (w : World) : Calls Try.prog 39 #[] w fun e w' => ∃ g, e = .returned (.slice (some ⟨g, 0, none⟩) 256 256) ∧ w.heap.size ≤ g ∧ RowZ w' g .u32 256 25 (fun j => (ruT 256 j : Int)) ∧ Below w.heap.size w w' := by
  have HBX := hidD (fun w => refBox_any w)
  have HC : Hid (∀ k : Nat, k < 256 → ∀ w, Calls Try.prog 49 #[.int .u8 (k : Int), .int .u8 2, .int .i64 283] w fun e w' => e = .returned (.int .u8 (dbS k : Int)) ∧ Below w.heap.size w w') := fun k hk w => by
    have := refCarry_in 27 (UInt8.ofNat k) 2 283 rfl w
    rw [u8_nat hk] at this; exact this.mono fun e w' h => ⟨h.1, by rw [h.2]; exact Below.refl _ _⟩
  have HRD : Hid (∀ k : Nat, k < 256 → ∀ w, Calls Try.prog 22 #[.int .i64 (k : Int)] w fun e w' => e = .returned (.int .u8 (rndS (k : Int) : Int)) ∧ Below w.heap.size w w') := fun k hk w => (refRound_any (k : Int) (by omega) w).mono fun e w' h => ⟨h.1, by rw [h.2]; exact Below.refl _ _⟩
  obtain ⟨i0, hi, hz0, hz1, hz2⟩ := info_parts Try.info25
  go_enter Try.func39, Try.ntmps39
  go_wp2_with (first
    | (go_at_call 64; refine (HBX.out _).mono ?_; rintro e w2 ⟨vb, rfl, hown2, hb2⟩; have HO2 := hidD hown2; have HB2 := hidD hb2; clear hown2 hb2)
    | (at_make; refine wpList_make_full _ rfl _ _ 48 rfl w2.heap.size 25 i0 (.int .u32 0) 1 Try.underlying48 hi hz0 hz1 _ _ _ _ 256 rfl rfl rfl rfl (by rw [hz2]; omega) (by unfold maxLen; omega) (Nat.le_refl _) ?_; intro w3 hown3 hg3; have HR3 := hidD (rowZ_of_made hown3); have HB3 : Hid (Below w2.heap.size w2 w3) := ((Below.refl w2.heap.size w2).grown hg3 (Nat.le_refl _) (fun k hk => by cases hk)); clear hown3 hg3))
  obtain ⟨gb, cap, rfl, hgb1, hgb2, hcap⟩ := row_shapeC HO2.out (by omega)
  have HBY : Hid (ByAt w2 (.slice (some ⟨gb, 0, none⟩) 256 cap) (boxTo 256)) := by
    have h := HO2.out
    rw [show (256 : Nat) = (boxTo 256).length from (box_len 256).symm] at h
    have := row_by h
    rw [box_len] at this; exact this
  have HBC : Hid (∀ x, x < 256 → w2.cell? ⟨gb, x, none⟩ = some (.int .u8 (sbN x : Int))) := fun x hx => by
    obtain ⟨g', o', he, _, hc⟩ := tab_cell0 HBY.out (box_len 256) (Below.refl w2.heap.size w2) hx
    cases he
    rw [box_tb hx] at hc
    rw [Nat.zero_add] at hc; exact hc
  have HBW := hidD (Below.next HB2.out HB3.out)
  have HG2 := hidD HB2.out.size
  clear hgb1 hcap
  generalize hg : w2.heap.size = g at *
  have HR0 : Hid (RowZ w3 g .u32 256 25 (fun j => (ruT 0 j : Int))) := HR3.out.congr fun j _ => by unfold ruT; simp
  have HGB := hidD hgb2
  clear HR3 HO2 HBY hg hgb2
  go_loopw [3] (fun i wr => ∃ k : Nat, k ≤ 256 ∧ i = .int .i64 k ∧ RowZ wr g .u32 256 25 (fun j => (ruT k j : Int)) ∧ Below g w3 wr) (fun i _ => 256 - (intOf i).toNat)
  case atStart => exact ⟨0, Nat.zero_le _, rfl, HR0.out, Below.refl _ _⟩
  case round =>
    obtain ⟨k, hk, rfl, hrow, hbel⟩ := hrel
    have HBL := hidD hbel
    have HRW := hidD hrow
    by_cases hlt : k < 256
    · have hlti : (k : Int) < 256 := by omega
      have hk0 : (0 : Int) ≤ k := by omega
      have hgne : ¬ gb = g := by have := HGB.out; omega
      have hcb : wr.cell? ⟨gb, k, none⟩ = some (.int .u8 (sbN k : Int)) := by
        rw [hbel.cell (p := ⟨gb, k, none⟩) HGB.out, HB3.out.cell (p := ⟨gb, k, none⟩) HGB.out]; exact HBC.out k hlt
      have hco : wr.cell? ⟨g, k, none⟩ = some (.int .u32 (ruT k k : Int)) := hrow.cell hlt
      have hfo : wr.frozen? ⟨g, k, none⟩ = false := hrow.frozen k
      have hsl := sbN_lt k
      have hs0 : (0 : Int) ≤ sbN k := by omega
      have hdl := db_lt k
      have hrl := rnd_lt (k : Int)
      have hul := ru_lt (j := k) hk
      have e1 : bits .or .u32 (ruT k k : Int) (sbN k : Int) = ((ruT k k ||| sbN k : Nat) : Int) := u32_or_nat _ _ hul (by omega)
      have l1 : ruT k k ||| sbN k < 4294967296 := or_lt32 hul (by omega)
      have e2 : bits .or .u32 ((ruT k k ||| sbN k : Nat) : Int) ((dbS k : Int) * 65536) = ((ruT k k ||| sbN k ||| dbS k * 65536 : Nat) : Int) := by
        rw [show (dbS k : Int) * 65536 = ((dbS k * 65536 : Nat) : Int) by simp, u32_or_nat _ _ l1 (by omega)]
      have l2 : ruT k k ||| sbN k ||| dbS k * 65536 < 4294967296 := or_lt32 l1 (by omega)
      have e3 : bits .or .u32 ((ruT k k ||| sbN k ||| dbS k * 65536 : Nat) : Int) ((rndS (k : Int) : Int) * 16777216) = ((ruT k k ||| sbN k ||| dbS k * 65536 ||| rndS (k : Int) * 16777216 : Nat) : Int) := by
        rw [show (rndS (k : Int) : Int) * 16777216 = ((rndS (k : Int) * 16777216 : Nat) : Int) by simp, u32_or_nat _ _ l2 (by omega)]
      have HCK := hidD (HC.out k hlt)
      have HRK := hidD (HRD.out k hlt)
      have hcb' : ∀ i : BW wr, i.v.cell? ⟨gb, k, none⟩ = some (.int .u8 (sbN k : Int)) := fun i => (i.below.cell (p := ⟨gb, k, none⟩) (Nat.lt_of_lt_of_le HGB.out (Nat.le_of_lt hrow.lt))).trans hcb
      have hco' : ∀ i : BW wr, i.v.cell? ⟨g, k, none⟩ = some (.int .u32 (ruT k k : Int)) := fun i => (i.below.cell (p := ⟨g, k, none⟩) hrow.lt).trans hco
      have hfo' : ∀ i : BW wr, i.v.frozen? ⟨g, k, none⟩ = false := fun i => (i.below.frozen (p := ⟨g, k, none⟩) hrow.lt).trans hfo
      clear hcb hco hfo
      have HR1 : Hid (∀ i : BW wr, RowZ (i.v.setCell ⟨g, k, none⟩ (.int .u32 ((ruT k k ||| sbN k ||| dbS k * 65536 ||| rndS (k : Int) * 16777216 : Nat) : Int))) g .u32 256 25 (fun j => ((if j = k then ruT k k ||| sbN k ||| dbS k * 65536 ||| rndS (k : Int) * 16777216 else ruT k j : Nat) : Int))) := fun i =>
        ((hrow.next i.below).set hlt _).congr fun j _ => by split <;> rfl
      have HB1 : Hid (∀ (i : BW wr) v, Below g w3 (i.v.setCell ⟨g, k, none⟩ v)) := fun i v => below_setCell (hbel.trans (i.below.mono (Nat.le_of_lt hrow.lt))) (Nat.le_refl _) _ v
      have HSTP := hidD (fun j hj => ru_step hlt (j := j) hj)
      have HVL : Hid (∀ j, (if j = k then ruT k k ||| sbN k ||| dbS k * 65536 ||| rndS (k : Int) * 16777216 else ruT k j) < 4294967296) := fun j => by
        split
        · exact or_lt32 l2 (by omega)
        · exact ru_lt hk
      have hu := us_sb hlt
      have HNE := hidD hu.2.2.2.1
      generalize hV : ruT k k ||| sbN k ||| dbS k * 65536 ||| rndS (k : Int) * 16777216 = V at *
      generalize ruT k k ||| sbN k ||| dbS k * 65536 = y2 at *
      generalize ruT k k ||| sbN k = y1 at *
      generalize hS : sbN k = S at *
      have HSE := hidD hS
      generalize hrnd : rndS (k : Int) = rk at *
      generalize hdb : dbS k = dk at *
      clear hV hS hrnd hdb hbel hrow hu l1 l2
      go_wp2_with fail
      refine wp_region_put (by simp) (by kernel_rfl) rfl (by kernel_rfl) (by kernel_rfl) (by kernel_rfl) ?_
      simp only [List.dropLast_cons_cons, List.dropLast_singleton, List.getLast_cons_cons, List.getLast_singleton, List.cons_append, List.nil_append, mute]
      repeat (go_big_quiet_step (first | (go_at_call 49; exact Calls.below_of (HCK.out _)) | (go_at_call 22; exact Calls.below_of (HRK.out _))))
      refine wpQuiet_nil ?_
      intro i
      go_wp2_with fail
      obtain ⟨w4, hw4⟩ : ∃ w4, w4 = i.v.setCell ⟨g, k, none⟩ (.int .u32 (V : Int)) := ⟨_, rfl⟩
      rw [← hw4]
      have hr4 : RowZ w4 g .u32 256 25 (fun j => ((if j = k then V else ruT k j : Nat) : Int)) := by rw [hw4]; exact HR1.out i
      have hb4 : Below g w3 w4 := by rw [hw4]; exact HB1.out i _
      have hvl := HVL.out S
      have kcb : ∀ i : BW w4, i.v.cell? ⟨gb, k, none⟩ = some (.int .u8 (S : Int)) := fun i => by
        rw [i.below.cell (p := ⟨gb, k, none⟩) (Nat.lt_of_lt_of_le HGB.out (Nat.le_of_lt hr4.lt)), hb4.cell (p := ⟨gb, k, none⟩) HGB.out, HB3.out.cell (p := ⟨gb, k, none⟩) HGB.out]
        have := HBC.out k hlt; rw [HSE.out] at this; exact this
      have kco : ∀ i : BW w4, i.v.cell? ⟨g, S, none⟩ = some (.int .u32 ((if S = k then V else ruT k S : Nat) : Int)) := fun i => (i.below.cell (p := ⟨g, S, none⟩) hr4.lt).trans (hr4.cell hsl)
      have kfo : ∀ i : BW w4, i.v.frozen? ⟨g, S, none⟩ = false := fun i => (i.below.frozen (p := ⟨g, S, none⟩) hr4.lt).trans (hr4.frozen S)
      have e4 : bits .or .u32 ((if S = k then V else ruT k S : Nat) : Int) ((k : Int) * 256) = (((if S = k then V else ruT k S) ||| k * 256 : Nat) : Int) := by
        rw [show (k : Int) * 256 = ((k * 256 : Nat) : Int) by simp, u32_or_nat _ _ hvl (by omega)]
      have HR5 : Hid (∀ i : BW w4, RowZ (i.v.setCell ⟨g, S, none⟩ (.int .u32 (((if S = k then V else ruT k S) ||| k * 256 : Nat) : Int))) g .u32 256 25 (fun j => (ruT (k + 1) j : Int))) := fun i =>
        ((hr4.next i.below).set hsl _).congr fun j hj => by rw [← HSTP.out j hj]; split <;> rfl
      have HB5 : Hid (∀ (i : BW w4) v, Below g w3 (i.v.setCell ⟨g, S, none⟩ v)) := fun i v => below_setCell (hb4.trans (i.below.mono (Nat.le_of_lt hr4.lt))) (Nat.le_refl _) _ v
      generalize ((if S = k then V else ruT k S) ||| k * 256 : Nat) = V5 at *
      generalize ((if S = k then V else ruT k S : Nat) : Int) = U at *
      clear hw4 hr4 hb4 hcb' hco' hfo' e1 e2 e3
      refine wp_region_put (by simp) (by kernel_rfl) rfl (by kernel_rfl) (by kernel_rfl) (by kernel_rfl) ?_
      simp only [List.dropLast_cons_cons, List.dropLast_singleton, List.getLast_cons_cons, List.getLast_singleton, List.cons_append, List.nil_append, mute]
      repeat (go_big_quiet_step (fail))
      refine wpQuiet_nil ?_
      intro i5
      go_wp2_with fail
      go_roundw
      case rel => exact ⟨k + 1, by omega, by go_num, HR5.out _, HB5.out _ _⟩
      case measure => simp [intOf]; omega
    · obtain rfl : k = 256 := by omega
      clear hrow hbel
      go_wp2_with fail
      go_ret
      exact ⟨g, rfl, HG2.out, HRW.out, HBW.out.trans (HBL.out.mono HG2.out)⟩
end Go.Proofs.Ytdbledfpphkppaa
