/- SboxTable, walked. -/
import Derived.Test.YtdbledfpphkppaaAlv
namespace Go.Proofs.Ytdbledfpphkppaa
open Go.RowKit
set_option linter.unusedVariables false

def ruP (j : Nat) : Bool := ruT 256 j % 256 == sbN j && ruT 256 j / 256 % 256 == usN j
theorem ruP_all : ((List.range 256).all ruP) = true := by decide +kernel
theorem ru_low {j : Nat} (h : j < 256) : ruT 256 j % 256 = sbN j := eq_of_beq (Bool.and_eq_true_iff.1 (List.all_eq_true.1 ruP_all j (by simpa using h))).1
theorem ru_mid {j : Nat} (h : j < 256) : ruT 256 j / 256 % 256 = usN j := eq_of_beq (Bool.and_eq_true_iff.1 (List.all_eq_true.1 ruP_all j (by simpa using h))).2
/-- A block of which the first 256 words are these. -/
def WbAt (w : World) (g : Nat) (f : Nat → Nat) : Prop := ∃ cs, w.heap[g]? = some (.cells cs (25 : TypeId) (0, 0)) ∧ ∀ j, j < 256 → cs[j]? = some (.int .u32 (f j : Int))
theorem WbAt.lt {w : World} {g : Nat} {f : Nat → Nat} (h : WbAt w g f) : g < w.heap.size := by obtain ⟨cs, h, _⟩ := h; exact row_lt h
theorem WbAt.cell {w : World} {g : Nat} {f : Nat → Nat} (h : WbAt w g f) {k : Nat} (hk : k < 256) : w.cell? ⟨g, k, none⟩ = some (.int .u32 (f k : Int)) := by
  obtain ⟨cs, h, hc⟩ := h
  rw [cell_of_row _ _ _ _ _ _ h]; exact hc k hk
theorem WbAt.frozen {w : World} {g : Nat} {f : Nat → Nat} (h : WbAt w g f) (k : Nat) : w.frozen? ⟨g, k, none⟩ = false := by
  obtain ⟨cs, h, _⟩ := h; exact frozen_of_row _ _ _ _ _ h
theorem WbAt.next {w w' : World} {g : Nat} {f : Nat → Nat} (h : WbAt w g f) (hb : Below w.heap.size w w') : WbAt w' g f := by
  have hl := h.lt
  obtain ⟨cs, h, hc⟩ := h
  exact ⟨cs, (hb.block g hl).trans h, hc⟩
theorem WbAt.put {w : World} {g k : Nat} {f : Nat → Nat} (h : WbAt w g f) (hn : g ≠ k) (i : Nat) (v : Value) : WbAt (w.setCell ⟨k, i, none⟩ v) g f := by
  obtain ⟨cs, h, hc⟩ := h
  exact ⟨cs, (Below.heap_setCell w ⟨k, i, none⟩ v g hn).trans h, hc⟩
theorem WbAt.row {w : World} {g : Nat} {f : Nat → Nat} (h : RowZ w g .u32 256 25 (fun j => (f j : Int))) : WbAt w g f := ⟨_, h, fun j hj => rowZ_get _ _ _ j hj⟩
theorem pWords_wb (w : World) : Calls Try.prog 37 #[] w fun e w' => ∃ g c, e = .returned (.slice (some ⟨g, 0, none⟩) 256 c) ∧ w.heap.size ≤ g ∧ WbAt w' g (ruT 256) ∧ Below w.heap.size w w' := by
  refine (pWords_any w).mono ?_
  rintro e w' ⟨v, rfl, ⟨g, c, cs, rfl, hg, h1, h2⟩, hb⟩
  exact ⟨g, c, rfl, hg, ⟨cs, h1, h2⟩, hb⟩
theorem pRule_wb (w : World) : Calls Try.prog 38 #[] w fun e w' => ∃ g c, e = .returned (.slice (some ⟨g, 0, none⟩) 256 c) ∧ w.heap.size ≤ g ∧ WbAt w' g (ruT 256) ∧ Below w.heap.size w w' := by
  refine (pRule_any w).mono ?_
  rintro e w' ⟨v, rfl, ⟨g, c, cs, rfl, hg, h1, h2⟩, hb⟩
  exact ⟨g, c, rfl, hg, ⟨cs, h1, h2⟩, hb⟩
theorem refRule_wb (w : World) : Calls Try.prog 39 #[] w fun e w' => ∃ g, e = .returned (.slice (some ⟨g, 0, none⟩) 256 256) ∧ w.heap.size ≤ g ∧ WbAt w' g (ruT 256) ∧ Below w.heap.size w w' := by
  refine (refRule_any w).mono ?_
  rintro e w' ⟨g, rfl, hg, h1, hb⟩
  exact ⟨g, rfl, hg, WbAt.row h1, hb⟩
set_option maxRecDepth 100000 in
set_option maxHeartbeats 400000 in
theorem same_words (f : Nat → Nat) (g h c d : Nat) (w : World) (hg : WbAt w g f) (hh : WbAt w h f) : Calls Try.prog 40 #[.slice (some ⟨g, 0, none⟩) 256 c, .slice (some ⟨h, 0, none⟩) 256 d] w fun e w' => e = .returned (.bool true) ∧ Below w.heap.size w w' := by
  have HG := hidD hg
  have HH := hidD hh
  clear hg hh
  go_enter Try.func40, Try.ntmps40
  go_wp2_with fail
  go_loopw [5] (fun i wr => ∃ k : Nat, k ≤ 256 ∧ i = .int .i64 k ∧ Below w.heap.size w wr) (fun i _ => 256 - (intOf i).toNat)
  case atStart => exact ⟨0, Nat.zero_le _, rfl, Below.refl _ _⟩
  case round =>
    obtain ⟨k, hk, rfl, hbel⟩ := hrel
    have HBL := hidD hbel
    by_cases hlt : k < 256
    · have hlti : (k : Int) < 256 := by omega
      have hc1 : ∀ n, (wr.drewN n).cell? ⟨g, k, none⟩ = some (.int .u32 (f k : Int)) := fun n => (HG.out.next hbel).cell hlt
      have hc2 : ∀ n, (wr.drewN n).cell? ⟨h, k, none⟩ = some (.int .u32 (f k : Int)) := fun n => (HH.out.next hbel).cell hlt
      clear hbel
      generalize (f k : Int) = v at *
      go_wp2_with fail
      go_quiet (fail)
      go_wp2_with fail
      go_roundw
      case rel => exact ⟨k + 1, by omega, by go_num, below_drewN HBL.out _⟩
      case measure => simp [intOf]; omega
    · obtain rfl : k = 256 := by omega
      clear hbel
      go_wp2_with fail
      go_ret
      exact ⟨rfl, HBL.out⟩
set_option maxRecDepth 100000 in
set_option maxHeartbeats 8000000 in
theorem table_any (b : UInt8) (w : World) : Calls Try.prog 6 #[.int .u8 (b.toNat : Int)] w fun e w' => e = .returned (.bool true) ∧ Below w.heap.size w w' := by
  have HA := hidD (fun w => alive_any w)
  have HW := hidD (fun w => pWords_wb w)
  have HW2 := hidD (fun w => pWords_wb w)
  have HR := hidD (fun w => pRule_wb w)
  have HR2 := hidD (fun w => pRule_wb w)
  have HT := hidD (fun w => refRule_wb w)
  have HS1 := hidD (fun g h c d w h1 h2 => same_words (ruT 256) g h c d w h1 h2)
  have HS2 := hidD (fun g h c d w h1 h2 => same_words (ruT 256) g h c d w h1 h2)
  have HSU := hidD (fun w => pSub_any b w)
  have HUN := hidD (fun w => pUnsub_any b w)
  rw [sub_sb] at HSU
  rw [show unsS b = usN b.toNat from rfl] at HUN
  have hB : b.toNat < 256 := b.toNat_lt
  have hbl : (b.toNat : Int) < 256 := by omega
  have hlow : (ruT 256 b.toNat : Int) % 256 = (sbN b.toNat : Int) := by have := ru_low hB; omega
  have hmid : (ruT 256 b.toNat : Int) / 256 % 256 = (usN b.toNat : Int) := by have := ru_mid hB; omega
  have hlow2 : IntKind.u8.wrap (ruT 256 b.toNat : Int) = (sbN b.toNat : Int) := by rw [IntKind.wrap_u8]; exact hlow
  have hmid2 : IntKind.u8.wrap ((ruT 256 b.toNat : Int) / 256) = (usN b.toNat : Int) := by rw [IntKind.wrap_u8]; exact hmid
  have hbd := ru_lt (k := 256) (j := b.toNat) (Nat.le_refl _)
  have HCL : Hid (∀ w' g, WbAt w' g (ruT 256) → w'.cell? ⟨g, b.toNat, none⟩ = some (.int .u32 (ruT 256 b.toNat : Int))) := fun w' g h => h.cell hB
  generalize ruT 256 b.toNat = X at *
  generalize (sbN b.toNat : Int) = S at *
  generalize (usN b.toNat : Int) = U at *
  generalize ruT 256 = f at *
  generalize b.toNat = B at *
  go_enter Try.func6, Try.ntmps6
  go_wp2_with (first
    | (go_at_call 23; refine (HA.out _).mono ?_; rintro e w0 ⟨rfl, hb0⟩; have HB := hidD hb0; clear hb0)
    | (go_at_call 37; refine (HW.out _).mono ?_; rintro e w1 ⟨gw, c1, rfl, hge1, hr1, hb1⟩; have HB1 := hidD (Below.next HB.out hb1); have HE1 := hidD (Nat.le_trans HB.out.size hge1); have HR1 := hidD hr1; clear hb1 hge1 hr1 HW)
    | (go_at_call 38; refine (HR.out _).mono ?_; rintro e w2 ⟨gr, c2, rfl, hge2, hr2, hb2⟩; have HB2 := hidD (Below.next HB1.out hb2); have HE2 := hidD (Nat.le_trans HB1.out.size hge2); have HN12 := hidD (Nat.lt_of_lt_of_le HR1.out.lt hge2); have HRR := hidD hr2; have HR1 := hidD (HR1.out.next hb2); clear hb2 hge2 hr2 HR)
    | (go_at_call 39; refine (HT.out _).mono ?_; rintro e w3 ⟨gt, rfl, hge3, hr3, hb3⟩; have HB3 := hidD (Below.next HB2.out hb3); have HN13 := hidD (Nat.lt_of_lt_of_le HR1.out.lt hge3); have HN23 := hidD (Nat.lt_of_lt_of_le HRR.out.lt hge3); have HR3 := hidD hr3; have HR1 := hidD (HR1.out.next hb3); have HRR := hidD (HRR.out.next hb3); clear hb3 hge3 hr3)
    | (go_at_call 40; refine (HS1.out _ _ _ _ _ HR1.out HR3.out).mono ?_; rintro e w4 ⟨rfl, hb4⟩; have HB4 := hidD (Below.next HB3.out hb4); have HR1 := hidD (HR1.out.next hb4); have HRR := hidD (HRR.out.next hb4); have HR3 := hidD (HR3.out.next hb4); clear hb4 HS1)
    | (go_at_call 40; refine (HS2.out _ _ _ _ _ HRR.out HR3.out).mono ?_; rintro e w5 ⟨rfl, hb5⟩; have HB5 := hidD (Below.next HB4.out hb5); have HR1 := hidD (HR1.out.next hb5); have HRR := hidD (HRR.out.next hb5); have HR3 := hidD (HR3.out.next hb5); clear hb5; have hcw := HCL.out _ _ HR1.out; have hfw := HR1.out.frozen B; have hcr : ∀ v, (w5.setCell ⟨gw, B, none⟩ v).cell? ⟨gr, B, none⟩ = some (.int .u32 (X : Int)) := fun v => HCL.out _ _ (HRR.out.put (Nat.ne_of_gt HN12.out) B v); have hfr : ∀ v, (w5.setCell ⟨gw, B, none⟩ v).frozen? ⟨gr, B, none⟩ = false := fun v => (HRR.out.put (Nat.ne_of_gt HN12.out) B v).frozen B))
  have HT6 : Hid (∀ v v', WbAt ((w5.setCell ⟨gw, B, none⟩ v).setCell ⟨gr, B, none⟩ v') gt f) := fun v v' => (HR3.out.put (Nat.ne_of_gt HN13.out) B v).put (Nat.ne_of_gt HN23.out) B v'
  have HB6 : Hid (∀ v v', Below w.heap.size w ((w5.setCell ⟨gw, B, none⟩ v).setCell ⟨gr, B, none⟩ v')) := fun v v' => below_setCell (below_setCell HB5.out HE1.out _ _) (Nat.le_trans HE2.out (Nat.le_refl _)) _ _
  clear hcw hfw hcr hfr
  have ht6 := HT6.out (.int .u32 (bits .xor .u32 (X : Int) 1)) (.int .u32 (bits .xor .u32 (X : Int) 1))
  have hb6 := HB6.out (.int .u32 (bits .xor .u32 (X : Int) 1)) (.int .u32 (bits .xor .u32 (X : Int) 1))
  clear HT6 HB6
  generalize (w5.setCell ⟨gw, B, none⟩ (.int .u32 (bits .xor .u32 (X : Int) 1))).setCell ⟨gr, B, none⟩ (.int .u32 (bits .xor .u32 (X : Int) 1)) = W6 at *
  have HT6 := hidD ht6
  have HB6 := hidD hb6
  clear ht6 hb6 HR1 HRR HR3 HB5 HB4 HB3 HB2 HB1 HB HE1 HE2 HN12 HN13 HN23
  go_region_with (first
    | (go_at_call 37; refine (HW2.out _).mono ?_; rintro e w7 ⟨g7, c7, rfl, hge7, hr7, hb7⟩; have HR7 := hidD hr7; have HT7 : Hid (WbAt w7 gt f) := (show WbAt W6.drew gt f from HT6.out).next hb7; have HB7 : Hid (Below w.heap.size w w7) := (show Below w.heap.size w W6.drew from HB6.out.drew).trans (hb7.mono HB6.out.size); clear hge7 hr7 hb7 HW2)
    | (go_at_call 40; refine (HS2.out _ _ _ _ _ HR7.out HT7.out).mono ?_; rintro e w8 ⟨rfl, hb8⟩; have HT8 := hidD (HT7.out.next hb8); have HB8 := hidD (Below.next HB7.out hb8); clear hb8 HR7)
    | (go_at_call 38; refine (HR2.out _).mono ?_; rintro e w9 ⟨g9, c9, rfl, hge9, hr9, hb9⟩; have HR9 := hidD hr9; have HT9 := hidD (HT8.out.next hb9); have HB9 := hidD (Below.next HB8.out hb9); clear hge9 hr9 hb9)
    | (go_at_call 40; refine (HS2.out _ _ _ _ _ HR9.out HT9.out).mono ?_; rintro e w10 ⟨rfl, hb10⟩; have HT10 := hidD (HT9.out.next hb10); have HB10 := hidD (Below.next HB9.out hb10); have hc10 := HCL.out _ _ HT10.out; clear hb10)
    | (go_at_call 11; refine (HSU.out _).mono ?_; rintro e w11 ⟨rfl, hb11⟩; have HT11 := hidD (HT10.out.next hb11); have HB11 := hidD (Below.next HB10.out hb11); have hc11 := HCL.out _ _ HT11.out; clear hb11)
    | (go_at_call 13; refine (HUN.out _).mono ?_; rintro e w12 ⟨rfl, hb12⟩; have HT12 := hidD (HT11.out.next hb12); have HB12 := hidD (Below.next HB11.out hb12); have hc12 := HCL.out _ _ HT12.out; clear hb12))
  all_goals
    go_wp2
    go_ret
    exact ⟨rfl, HB12.out⟩
end Go.Proofs.Ytdbledfpphkppaa
