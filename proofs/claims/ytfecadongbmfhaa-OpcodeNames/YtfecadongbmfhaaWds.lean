/- What toldOf and Words answer. -/
import Derived.Test.YtfecadongbmfhaaOpD
namespace Go.Proofs.Ytfecadongbmfhaa
open Go.RowKit
set_option linter.unusedVariables false

/- the word of an opcode without its hash; the words, k names laid -/
def tdN (op : Nat) : Nat := if (inS op).1 = 0 then 0 else (inS op).1 + 256 * (inS op).2 + 4096 * baS (inS op).1 (inS op).2 + 65536 * exS (inS op).1 (inS op).2
def wdF (k i : Nat) : Int := ((tdN i + 16777216 * bhN k i : Nat) : Int)
theorem td_lt : ∀ op < 256, tdN op < 16777216 := by decide +kernel
theorem ba_le : ∀ op < 256, baS (inS op).1 (inS op).2 ≤ 7 ∧ exS (inS op).1 (inS op).2 ≤ 1 := by decide +kernel
theorem or_i1 : ∀ op < 256, bits .or .i64 (((inS op).1 : Nat) : Int) ((256 * (inS op).2 : Nat) : Int) = (((inS op).1 + 256 * (inS op).2 : Nat) : Int) := by decide +kernel
theorem or_i2 : ∀ op < 256, bits .or .i64 (((inS op).1 + 256 * (inS op).2 : Nat) : Int) ((4096 * baS (inS op).1 (inS op).2 : Nat) : Int) = (((inS op).1 + 256 * (inS op).2 + 4096 * baS (inS op).1 (inS op).2 : Nat) : Int) := by decide +kernel
theorem or_i3 : ∀ op < 256, bits .or .i64 (((inS op).1 + 256 * (inS op).2 + 4096 * baS (inS op).1 (inS op).2 : Nat) : Int) ((65536 * exS (inS op).1 (inS op).2 : Nat) : Int) = (((inS op).1 + 256 * (inS op).2 + 4096 * baS (inS op).1 (inS op).2 + 65536 * exS (inS op).1 (inS op).2 : Nat) : Int) := by decide +kernel
theorem of_ins0 {op : Nat} (ho : op < 256) (h : (inS op).1 ≠ 0) (w : World) : Calls Try.prog 14 #[.int .u8 (op : Int)] w fun e w' => e = .returned (.tuple #[.string (bA (nmS (inS op).1)), .int .i64 ((inS op).2 : Int), .bool true]) ∧ Below w.heap.size w w' := by
  have := of_any op ho w
  unfold ofV at this
  rw [beq_eq_false_iff_ne.2 h] at this
  exact this
theorem of_no0 {op : Nat} (ho : op < 256) (h : (inS op).1 = 0) (w : World) : Calls Try.prog 14 #[.int .u8 (op : Int)] w fun e w' => e = .returned (.tuple #[.string ⟨#[]⟩, .int .i64 0, .bool false]) ∧ Below w.heap.size w w' := by
  have := of_any op ho w
  unfold ofV at this
  rw [in_none op ho h, h] at this
  exact this
theorem num_ins {op : Nat} (ho : op < 256) (h : (inS op).1 ≠ 0) (w : World) : Calls Try.prog 18 #[.string (bA (nmS (inS op).1))] w fun e w' => e = .returned (.tuple #[.int .i64 (((inS op).1 - 1 : Nat) : Int), .bool true]) ∧ Below w.heap.size w w' := by
  have hm := (in_lt op ho).1
  have := number_any (nmS (inS op).1) (by rw [nm_len _ hm (by omega)]; decide) w
  rw [fi_of _ hm (by omega)] at this
  unfold nuV at this
  rw [if_neg h] at this
  exact this
theorem cyc_ins {op : Nat} (ho : op < 256) (h : (inS op).1 ≠ 0) (w : World) : Calls Try.prog 16 #[.int .u8 (op : Int)] w fun e w' => e = .returned (.tuple #[.int .i64 (baS (inS op).1 (inS op).2 : Int), .int .i64 (exS (inS op).1 (inS op).2 : Int), .bool true]) ∧ Below w.heap.size w w' := by
  have := cycles_any op ho w
  unfold cyV at this
  rw [if_neg h] at this
  exact this
set_option maxRecDepth 100000 in
set_option maxHeartbeats 1600000 in
theorem toldOf_any (op : Nat) (ho : op < 256) (w : World) : Calls Try.prog 37 #[.int .u8 (op : Int)] w fun e w' => e = .returned (.int .u32 (tdN op : Int)) ∧ Below w.heap.size w w' := by
  by_cases h0 : (inS op).1 = 0
  · have HO : Hid (∀ w, Calls Try.prog 14 #[.int .u8 (op : Int)] w fun e w' => e = .returned (.tuple #[.string ⟨#[]⟩, .int .i64 0, .bool false]) ∧ Below w.heap.size w w') := fun w => of_no0 ho h0 w
    rw [show tdN op = 0 from if_pos h0]
    clear h0
    go_enter Try.func37, Try.ntmps37
    go_wp2_with (go_at_call 14; refine (HO.out _).mono ?_; rintro e w1 ⟨rfl, b1⟩)
    go_ret
    exact ⟨rfl, b1⟩
  · have HO : Hid (∀ w, Calls Try.prog 14 #[.int .u8 (op : Int)] w fun e w' => e = .returned (.tuple #[.string (bA (nmS (inS op).1)), .int .i64 ((inS op).2 : Int), .bool true]) ∧ Below w.heap.size w w') := fun w => of_ins0 ho h0 w
    have HU : Hid (∀ w, Calls Try.prog 18 #[.string (bA (nmS (inS op).1))] w fun e w' => e = .returned (.tuple #[.int .i64 (((inS op).1 - 1 : Nat) : Int), .bool true]) ∧ Below w.heap.size w w') := fun w => num_ins ho h0 w
    have HY : Hid (∀ w, Calls Try.prog 16 #[.int .u8 (op : Int)] w fun e w' => e = .returned (.tuple #[.int .i64 (baS (inS op).1 (inS op).2 : Int), .int .i64 (exS (inS op).1 (inS op).2 : Int), .bool true]) ∧ Below w.heap.size w w') := fun w => cyc_ins ho h0 w
    have HT : Hid (tdN op = (inS op).1 + 256 * (inS op).2 + 4096 * baS (inS op).1 (inS op).2 + 65536 * exS (inS op).1 (inS op).2) := if_neg h0
    have l1 := in_lt op ho
    have l2 := ba_le op ho
    have o1 := or_i1 op ho
    have o2 := or_i2 op ho
    have o3 := or_i3 op ho
    rw [HT.out]
    generalize bA (nmS (inS op).1) = NM at *
    generalize baS (inS op).1 (inS op).2 = B at *
    generalize exS (inS op).1 (inS op).2 = E at *
    generalize (inS op).1 = m at *
    generalize (inS op).2 = k at *
    have e0 : ((m - 1 : Nat) : Int) + 1 = (m : Int) := by omega
    have hm1 : m - 1 < 56 := by omega
    have s1 : (k : Int) * 256 = ((256 * k : Nat) : Int) := by omega
    have s2 : (B : Int) * 4096 = ((4096 * B : Nat) : Int) := by omega
    have s3 : (E : Int) * 65536 = ((65536 * E : Nat) : Int) := by omega
    have t1 : (k : Int) * 2 ^ 8 = ((256 * k : Nat) : Int) := by omega
    have t2 : (B : Int) * 2 ^ 12 = ((4096 * B : Nat) : Int) := by omega
    have t3 : (E : Int) * 2 ^ 16 = ((65536 * E : Nat) : Int) := by omega
    have q1 : 256 * k ≤ 3072 := by omega
    have q2 : 4096 * B ≤ 28672 := by omega
    have q3 : 65536 * E ≤ 65536 := by omega
    have q4 : m + 256 * k + 4096 * B + 65536 * E < 100000 := by omega
    clear HT h0
    generalize m + 256 * k + 4096 * B + 65536 * E = X3 at *
    generalize m + 256 * k + 4096 * B = X2 at *
    generalize m + 256 * k = X1 at *
    generalize 256 * k = Y1 at *
    generalize 4096 * B = Y2 at *
    generalize 65536 * E = Y3 at *
    generalize m - 1 = j at *
    go_enter Try.func37, Try.ntmps37
    go_wp2_with (first | (go_at_call 16; refine (HY.out _).mono ?_; rintro e w3 ⟨rfl, b3⟩) | (go_at_call 18; refine (HU.out _).mono ?_; rintro e w2 ⟨rfl, b2⟩) | (go_at_call 14; refine (HO.out _).mono ?_; rintro e w1 ⟨rfl, b1⟩))
    go_ret
    exact ⟨rfl, Below.next (Below.next b1 b2) b3⟩

theorem RowT.other2 {w : World} {h g n : Nat} {f : Nat → ByteArray} (hr : RowT w h n f) (hne : h ≠ g) (k : Nat) (v : Value) : RowT (w.setCell ⟨g, k, none⟩ v) h n f := (heap_setCell_other w ⟨g, k, none⟩ h v hne).trans hr
/- the words, k opcodes told -/
def w1F (k i : Nat) : Int := if i < k then (tdN i : Int) else 0
theorem wd_made : madeCells #[(.int .u32 0 : Value)] 256 = rowZ .u32 256 (w1F 0) := by kernel_rfl
theorem Try.infoU : (Try.prog.info? 22).map (fun i => (i.zero, i.size, i.bytes)) = some (some (.int .u32 0), 1, 4) := by kernel_rfl
theorem make_words (w : World) : (Instr.makeSlice 23 (.int .i64 256) (.int .i64 256)).run Try.prog w = .ok (.slice (some ⟨w.heap.size, 0, none⟩) 256 256) (w.alloc (.cells (rowZ .u32 256 (w1F 0)) 22)) := by
  rw [← wd_made]
  exact run_make_row' 23 22 (.int .u32 0) 4 Try.underlying23 Try.infoU rfl .i64 .i64 256 (by decide) (by decide) w
def hkN (k : Nat) : Nat := hsS (nmS (k + 1)) 7 79
theorem bh_free : ∀ k < 56, bhN k (hkN k) = 0 := by decide +kernel
theorem hk_lt (k : Nat) : hkN k < 256 := hs_lt _ _ _
theorem or_hash : ∀ k < 56, bits .or .u32 ((tdN (hkN k) : Nat) : Int) ((16777216 * (k + 1) : Nat) : Int) = ((tdN (hkN k) + 16777216 * (k + 1) : Nat) : Int) := by decide +kernel
set_option maxRecDepth 100000 in
set_option maxHeartbeats 1600000 in
theorem words_any (w : World) : Calls Try.prog 10 #[] w fun e w' => ∃ g, e = .returned (.slice (some ⟨g, 0, none⟩) 256 256) ∧ w.heap.size ≤ g ∧ RowZ w' g .u32 256 (22 : TypeId) (wdF 56) ∧ Below w.heap.size w w' := by
  have HT : Hid (∀ k : Nat, k < 256 → ∀ w, Calls Try.prog 37 #[.int .u8 (k : Int)] w fun e w' => e = .returned (.int .u32 (tdN k : Int)) ∧ Below w.heap.size w w') := fun k hk w => toldOf_any k hk w
  have HP : Hid (∀ w, Calls Try.prog 33 #[] w fun e w' => e = .returned (.tuple #[.int .i64 7, .int .i64 79]) ∧ w' = w) := fun w => pair_any w
  have HM : Hid (∀ w, Calls Try.prog 22 #[] w fun e w' => ∃ g, e = .returned (.slice (some ⟨g, 0, none⟩) 56 56) ∧ w.heap.size ≤ g ∧ RowT w' g 56 (mnF 56) ∧ Below w.heap.size w w') := fun w => mnemonics_any w
  have HH : Hid (∀ k : Nat, k < 56 → ∀ w, Calls Try.prog 31 #[.string (bA (nmS (k + 1))), .int .i64 7, .int .i64 79] w fun e w' => e = .returned (.tuple #[.int .i64 (hkN k : Int), .int .i64 0]) ∧ Below w.heap.size w w') := fun k hk w => by
    have h := hash_any (nmS (k + 1)) (by rw [nm_len _ (by omega) (by omega)]; decide) 7 79 w
    rw [show haS (nmS (k + 1)) 7 79 = (hkN k, 0) from if_pos ⟨nm_cap _ (by omega) (by omega), rfl, rfl⟩] at h
    exact h
  have hmk := make_words
  have HR : Hid (RowZ (w.alloc (.cells (rowZ .u32 256 (w1F 0)) 22)) w.heap.size .u32 256 (22 : TypeId) (w1F 0)) := heap_alloc_last _ _
  have HL : Hid (Below w.heap.size w (w.alloc (.cells (rowZ .u32 256 (w1F 0)) 22))) := (Below.refl _ _).alloc (Nat.le_refl _) _
  generalize rowZ .u32 256 (w1F 0) = C0 at *
  go_enter Try.func10, Try.ntmps10
  go_wp2_with fail
  clear hmk
  generalize w.alloc (.cells C0 22) = W0 at *
  go_loopw [2, 12] (fun _ i wr => ∃ k : Nat, k ≤ 256 ∧ i = .int .i64 k ∧ RowZ wr w.heap.size .u32 256 (22 : TypeId) (w1F k) ∧ Below w.heap.size w wr) (fun _ i _ => 256 - (intOf i).toNat)
  case atStart => exact ⟨0, Nat.zero_le _, rfl, HR.out, HL.out⟩
  case round =>
    obtain ⟨k, hk, rfl, hrow, hbel⟩ := hrel
    have HRW := hidD hrow
    have HBL := hidD hbel
    clear hrow hbel HR HL
    by_cases hlt : k < 256
    · have hlti : (k : Int) < 256 := by omega
      have HT1 := hidD (HT.out k hlt)
      have HS : Hid (∀ i, i < 256 → (if i = k then (tdN k : Int) else w1F k i) = w1F (k + 1) i) := fun i _ => by
        unfold w1F
        by_cases h : i = k
        · subst h; rw [if_pos rfl, if_pos (by omega)]
        · rw [if_neg h]
          by_cases h2 : i < k
          · rw [if_pos h2, if_pos (by omega)]
          · rw [if_neg h2, if_neg (by omega)]
      have HC : Hid (∀ w2 : World, Below wr.heap.size wr w2 → w2.cell? ⟨w.heap.size, k, none⟩ = some (.int .u32 (w1F k k)) ∧ w2.frozen? ⟨w.heap.size, k, none⟩ = false) := fun w2 hb => ⟨(HRW.out.next hb).cell hlt, (HRW.out.next hb).frozen _⟩
      clear HT HM HH HP
      generalize tdN k = T at *
      go_wp2_with (go_at_call 37; refine (HT1.out _).mono ?_; rintro e w2 ⟨rfl, hb2⟩; obtain ⟨c2, c3⟩ := HC.out _ hb2)
      go_roundw
      case rel => exact ⟨k + 1, by omega, by go_num, ((HRW.out.next hb2).set hlt _).congr HS.out, below_setCell (Below.next HBL.out hb2) (Nat.le_refl _) _ _⟩
      case measure => simp [intOf]; omega
    · obtain rfl : k = 256 := by omega
      have HR0 : Hid (RowZ wr w.heap.size .u32 256 (22 : TypeId) (wdF 0)) := HRW.out.congr (fun i hi => by unfold w1F wdF; rw [if_pos hi, bhN]; simp)
      clear HT HRW
      go_wp2_with (first | (go_at_call 22; refine (HM.out _).mono ?_; rintro e w2 ⟨g, rfl, hg, hrt, hb2⟩) | (go_at_call 33; refine (HP.out _).mono ?_; rintro e w1 ⟨rfl, rfl⟩))
      have HRT := hidD hrt
      have HR1 := hidD (HR0.out.next hb2)
      have HL1 := hidD (Below.next HBL.out hb2)
      have HGN : Hid (w.heap.size ≠ g) := by have := HR0.out.lt; show _ ≠ _; omega
      clear hrt hb2 hg HR0 HBL HM HP
      go_loopw [5, 6, 7, 8, 28] (fun _ _ _ _ i wr => ∃ k : Nat, k ≤ 56 ∧ i = .int .i64 k ∧ RowZ wr w.heap.size .u32 256 (22 : TypeId) (wdF k) ∧ RowT wr g 56 (mnF 56) ∧ Below w.heap.size w wr) (fun _ _ _ _ i _ => 56 - (intOf i).toNat)
      case atStart => exact ⟨0, Nat.zero_le _, rfl, HR1.out, HRT.out, HL1.out⟩
      case round =>
        obtain ⟨k, hk, rfl, hro, hrt, hbel⟩ := hrel
        have HRO := hidD hro
        have HRW := hidD hrt
        have HBL := hidD hbel
        clear hro hrt hbel HR1 HRT HL1
        by_cases hlt : k < 56
        · have hlti : (k : Int) < 56 := by omega
          have c1 : wr.cell? ⟨g, k, none⟩ = some (.string (bA (nmS (k + 1)))) := by rw [HRW.out.cell hlt]; unfold mnF; rw [if_pos hlt]
          have HH1 := hidD (HH.out k hlt)
          have hx := hk_lt k
          have hxi : (hkN k : Int) < 256 := by omega
          have hor := or_hash k hlt
          have HWF : Hid (wdF k (hkN k) = (tdN (hkN k) : Int)) := by show _ = _; unfold wdF; rw [bh_free k hlt]; simp
          have HS : Hid (∀ i, i < 256 → (if i = hkN k then ((tdN (hkN k) + 16777216 * (k + 1) : Nat) : Int) else wdF k i) = wdF (k + 1) i) := fun i _ => by
            unfold wdF
            rw [bhN, show hsS (nmS (k + 1)) 7 79 = hkN k from rfl]
            by_cases h : i = hkN k
            · rw [if_pos h, if_pos h, h]
            · rw [if_neg h, if_neg h]
          have HC : Hid (∀ w2 : World, Below wr.heap.size wr w2 → w2.cell? ⟨w.heap.size, hkN k, none⟩ = some (.int .u32 (tdN (hkN k) : Int)) ∧ w2.frozen? ⟨w.heap.size, hkN k, none⟩ = false) := fun w2 hb => ⟨by rw [(HRO.out.next hb).cell hx, HWF.out], (HRO.out.next hb).frozen _⟩
          have e1 : (k : Int) + 1 = ((k + 1 : Nat) : Int) := by omega
          have e2 : ((k + 1 : Nat) : Int) * 2 ^ 24 = ((16777216 * (k + 1) : Nat) : Int) := by omega
          have e3 : ((k + 1 : Nat) : Int) * 16777216 = ((16777216 * (k + 1) : Nat) : Int) := by omega
          have q1 : 16777216 * (k + 1) < 4294967296 := by omega
          clear HH HWF
          generalize tdN (hkN k) + 16777216 * (k + 1) = Z at *
          generalize 16777216 * (k + 1) = Y at *
          generalize bA (nmS (k + 1)) = NM at *
          have hK : k + 1 ≤ 56 := by omega
          generalize hKK : k + 1 = K at *
          generalize tdN (hkN k) = T at *
          generalize hkN k = X at *
          go_wp2_with (go_at_call 31; refine (HH1.out _).mono ?_; rintro e w2 ⟨rfl, hb2⟩; obtain ⟨c2, c3⟩ := HC.out _ hb2; clear c1)
          go_roundw
          case rel =>
            subst hKK
            exact ⟨k + 1, by omega, by go_num, ((HRO.out.next hb2).set hx _).congr HS.out, (HRW.out.next hb2).other2 HGN.out.symm _ _, below_setCell (Below.next HBL.out hb2) (Nat.le_refl _) _ _⟩
          case measure => simp [intOf]; omega
        · obtain rfl : k = 56 := by omega
          clear HH
          go_wp2_with fail
          go_ret
          exact ⟨_, rfl, Nat.le_refl _, HRO.out, HBL.out⟩
end Go.Proofs.Ytfecadongbmfhaa
