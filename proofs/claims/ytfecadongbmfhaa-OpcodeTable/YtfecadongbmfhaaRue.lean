/- What wordOf and Rule answer. -/
import Derived.Test.YtfecadongbmfhaaWds
namespace Go.Proofs.Ytfecadongbmfhaa
open Go.RowKit
set_option linter.unusedVariables false

set_option maxRecDepth 100000 in
set_option maxHeartbeats 1600000 in
theorem wordOf_any (op : Nat) (ho : op < 256) (w : World) : Calls Try.prog 39 #[.agg #[.int .i64 ((inS op).1 : Int), .int .i64 ((inS op).2 : Int)]] w fun e w' => e = .returned (.int .u32 (tdN op : Int)) ∧ Below w.heap.size w w' := by
  obtain ⟨hm, hk⟩ := in_lt op ho
  have HB := hidD (box_bel w (inS op).1 (inS op).2 64)
  have HG : Hid ((w.alloc (.cells (inC (inS op).1 (inS op).2) (64 : TypeId))).heap[w.heap.size]? = some (.cells (inC (inS op).1 (inS op).2) (64 : TypeId) (0, 0))) := heap_alloc_last _ _
  have hs : w.heap.size < (w.alloc (.cells (inC (inS op).1 (inS op).2) (64 : TypeId))).heap.size := by simp
  have c0 := in_row HG.out
  have c1 := in_row1 HG.out
  have d0 : ∀ i : BW (w.alloc (.cells (inC (inS op).1 (inS op).2) (64 : TypeId))), i.v.cell? ⟨w.heap.size, 0, none⟩ = some (.int .i64 ((inS op).1 : Int)) := fun i => (i.cell hs).trans c0
  have d1 : ∀ i : BW (w.alloc (.cells (inC (inS op).1 (inS op).2) (64 : TypeId))), i.v.cell? ⟨w.heap.size, 1, none⟩ = some (.int .i64 ((inS op).2 : Int)) := fun i => (i.cell hs).trans c1
  clear hs
  by_cases h0 : (inS op).1 = 0
  · rw [show tdN op = 0 from if_pos h0]
    have HB2 : Hid (Below w.heap.size w (w.alloc (.cells #[.int .i64 0, .int .i64 ((inS op).2 : Int)] 64))) := by have := HB.out; unfold inC at this; rw [h0] at this; exact this
    unfold inC at *
    rw [h0] at *
    clear d0 d1 HB
    generalize (inS op).2 = k at *
    go_enter Try.func39, Try.ntmps39
    go_wp2_with fail
    go_ret
    exact ⟨rfl, HB2.out⟩
  · have HA : Hid (∀ w, Calls Try.prog 45 #[.agg #[.int .i64 ((inS op).1 : Int), .int .i64 ((inS op).2 : Int)]] w fun e w' => e = .returned (.int .i64 (baS (inS op).1 (inS op).2 : Int)) ∧ Below w.heap.size w w') := fun w => baseOf_any _ _ hm hk w
    have HE : Hid (∀ w, Calls Try.prog 46 #[.agg #[.int .i64 ((inS op).1 : Int), .int .i64 ((inS op).2 : Int)]] w fun e w' => e = .returned (.int .i64 (exS (inS op).1 (inS op).2 : Int)) ∧ Below w.heap.size w w') := fun w => extraOf_any _ _ hm hk w
    have HT : Hid (tdN op = (inS op).1 + 256 * (inS op).2 + 4096 * baS (inS op).1 (inS op).2 + 65536 * exS (inS op).1 (inS op).2) := if_neg h0
    have l2 := ba_le op ho
    have o1 := or_i1 op ho
    have o2 := or_i2 op ho
    have o3 := or_i3 op ho
    rw [HT.out]
    have h0i : ¬ ((inS op).1 : Int) = 0 := by omega
    have h0b : (((inS op).1 : Int) == 0) = false := beq_eq_false_iff_ne.2 h0i
    unfold inC at *
    generalize baS (inS op).1 (inS op).2 = B at *
    generalize exS (inS op).1 (inS op).2 = E at *
    generalize (inS op).1 = m at *
    generalize (inS op).2 = k at *
    have s1 : (k : Int) * 256 = ((256 * k : Nat) : Int) := by omega
    have s2 : (B : Int) * 4096 = ((4096 * B : Nat) : Int) := by omega
    have s3 : (E : Int) * 65536 = ((65536 * E : Nat) : Int) := by omega
    have t1 : (k : Int) * 2 ^ 8 = ((256 * k : Nat) : Int) := by omega
    have t2 : (B : Int) * 2 ^ 12 = ((4096 * B : Nat) : Int) := by omega
    have t3 : (E : Int) * 2 ^ 16 = ((65536 * E : Nat) : Int) := by omega
    have q1 : 256 * k ≤ 3072 := by omega
    have q2 : 4096 * B ≤ 28672 := by omega
    have q3 : 65536 * E ≤ 65536 := by omega
    have q4 : m + 256 * k + 4096 * B + 65536 * E < 100000 := by omega
    clear HT h0
    generalize m + 256 * k + 4096 * B + 65536 * E = X3 at *
    generalize m + 256 * k + 4096 * B = X2 at *
    generalize m + 256 * k = X1 at *
    generalize 256 * k = Y1 at *
    generalize 4096 * B = Y2 at *
    generalize 65536 * E = Y3 at *
    go_enter Try.func39, Try.ntmps39
    go_wp2_with fail
    refine wp_region_below (by kernel_rfl) (by kernel_rfl) ?_
    repeat (go_big_quiet_step (first | (go_at_call 46; exact Calls.below_of (HE.out _)) | (go_at_call 45; exact Calls.below_of (HA.out _))))
    refine wpQuiet_nil ?_
    intro i
    clear d0 d1 c0 c1
    go_wp2_with fail
    go_ret
    exact ⟨rfl, Below.next HB.out i.below⟩

theorem or_rule : ∀ k < 256, bits .or .u32 ((tdN k : Nat) : Int) ((16777216 * bhN 56 k : Nat) : Int) = ((tdN k + 16777216 * bhN 56 k : Nat) : Int) := by decide +kernel
/- the words, k of them laid -/
def ruF (k i : Nat) : Int := if i < k then wdF 56 i else 0
set_option maxRecDepth 100000 in
set_option maxHeartbeats 1600000 in
theorem rule_any (w : World) : Calls Try.prog 11 #[] w fun e w' => ∃ g, e = .returned (.slice (some ⟨g, 0, none⟩) 256 256) ∧ w.heap.size ≤ g ∧ RowZ w' g .u32 256 (22 : TypeId) (wdF 56) ∧ Below w.heap.size w w' := by
  have HI : Hid (∀ op : Nat, op < 256 → ∀ w, Calls Try.prog 40 #[.int .u8 (op : Int)] w fun e w' => e = .returned (.agg #[.int .i64 ((inS op).1 : Int), .int .i64 ((inS op).2 : Int)]) ∧ Below w.heap.size w w') := fun op ho w => instructionOf_any op ho w
  have HT : Hid (∀ op : Nat, op < 256 → ∀ w, Calls Try.prog 39 #[.agg #[.int .i64 ((inS op).1 : Int), .int .i64 ((inS op).2 : Int)]] w fun e w' => e = .returned (.int .u32 (tdN op : Int)) ∧ Below w.heap.size w w') := fun op ho w => wordOf_any op ho w
  have HH : Hid (∀ w, Calls Try.prog 38 #[] w fun e w' => e = .returned (.agg (rowZ .u8 256 (bhTo 56))) ∧ Below w.heap.size w w') := fun w => byHash_any w
  have HIX : Hid (∀ k : Nat, k < 256 → ∀ w, (Instr.index 60 (.agg (rowZ .u8 256 (bhTo 56))) (.int .i64 (k : Int))).run Try.prog w = .ok (.int .u8 (bhN 56 k : Int)) w) := fun k hk w => index_256 _ k _ hk (rowZ_get .u8 256 (bhTo 56) k hk) w
  have hmk := make_words
  have HR : Hid (RowZ (w.alloc (.cells (rowZ .u32 256 (w1F 0)) 22)) w.heap.size .u32 256 (22 : TypeId) (ruF 0)) := RowZ.congr (heap_alloc_last _ _ : RowZ _ _ _ _ _ (w1F 0)) (fun i hi => by unfold w1F ruF; rw [if_neg (by omega), if_neg (by omega)])
  have HL : Hid (Below w.heap.size w (w.alloc (.cells (rowZ .u32 256 (w1F 0)) 22))) := (Below.refl _ _).alloc (Nat.le_refl _) _
  generalize rowZ .u32 256 (w1F 0) = C0 at *
  generalize rowZ .u8 256 (bhTo 56) = C1 at *
  go_enter Try.func11, Try.ntmps11
  go_wp2_with (go_at_call 38; refine (HH.out _).mono ?_; rintro e w1 ⟨rfl, b1⟩)
  clear hmk HH
  have HR1 := hidD (HR.out.next b1)
  have HL1 := hidD (Below.next HL.out b1)
  clear HR HL b1
  go_loopw [2, 3, 6] (fun _ _ i wr => ∃ k : Nat, k ≤ 256 ∧ i = .int .i64 k ∧ RowZ wr w.heap.size .u32 256 (22 : TypeId) (ruF k) ∧ Below w.heap.size w wr) (fun _ _ i _ => 256 - (intOf i).toNat)
  case atStart => exact ⟨0, Nat.zero_le _, rfl, HR1.out, HL1.out⟩
  case round =>
    obtain ⟨k, hk, rfl, hrow, hbel⟩ := hrel
    have HRW := hidD hrow
    have HBL := hidD hbel
    clear hrow hbel HR1 HL1
    by_cases hlt : k < 256
    · have hlti : (k : Int) < 256 := by omega
      have HI1 := hidD (HI.out k hlt)
      have HT1 := hidD (HT.out k hlt)
      have hix := HIX.out k hlt
      have hor := or_rule k hlt
      have hbb := bh_le 56 k
      have HS : Hid (∀ i, i < 256 → (if i = k then ((tdN k + 16777216 * bhN 56 k : Nat) : Int) else ruF k i) = ruF (k + 1) i) := fun i _ => by
        unfold ruF
        by_cases h : i = k
        · subst h; rw [if_pos rfl, if_pos (by omega)]; rfl
        · rw [if_neg h]
          by_cases h2 : i < k
          · rw [if_pos h2, if_pos (by omega)]
          · rw [if_neg h2, if_neg (by omega)]
      have HC : Hid (∀ w2 : World, Below wr.heap.size wr w2 → w2.cell? ⟨w.heap.size, k, none⟩ = some (.int .u32 (ruF k k)) ∧ w2.frozen? ⟨w.heap.size, k, none⟩ = false) := fun w2 hb => ⟨(HRW.out.next hb).cell hlt, (HRW.out.next hb).frozen _⟩
      have e2 : (bhN 56 k : Int) * 2 ^ 24 = ((16777216 * bhN 56 k : Nat) : Int) := by omega
      have e3 : (bhN 56 k : Int) * 16777216 = ((16777216 * bhN 56 k : Nat) : Int) := by omega
      have q1 : 16777216 * bhN 56 k < 4294967296 := by omega
      clear HI HT HIX
      generalize tdN k + 16777216 * bhN 56 k = Z at *
      generalize 16777216 * bhN 56 k = Y at *
      generalize bhN 56 k = B at *
      generalize tdN k = T at *
      generalize (inS k).1 = m at *
      generalize (inS k).2 = k1 at *
      go_wp2_with (first | (go_at_call 39; refine (HT1.out _).mono ?_; rintro e w3 ⟨rfl, hb3⟩; obtain ⟨c2, c3⟩ := HC.out _ (Below.next hb2 hb3)) | (go_at_call 40; refine (HI1.out _).mono ?_; rintro e w2 ⟨rfl, hb2⟩))
      go_roundw
      case rel => exact ⟨k + 1, by omega, by go_num, ((HRW.out.next (Below.next hb2 hb3)).set hlt _).congr HS.out, below_setCell (Below.next HBL.out (Below.next hb2 hb3)) (Nat.le_refl _) _ _⟩
      case measure => simp [intOf]; omega
    · obtain rfl : k = 256 := by omega
      clear HI HT HIX
      go_wp2_with fail
      go_ret
      exact ⟨_, rfl, Nat.le_refl _, HRW.out.congr (fun i hi => if_pos hi), HBL.out⟩
end Go.Proofs.Ytfecadongbmfhaa
