/- What the document's Words answer. -/
import Derived.Test.YtfecadongbmfhaaWds
import Derived.Test.YtfecadongbmfhaaHsh
import Derived.Test.YtfecadongbmfhaaDc6
namespace Go.Proofs.Ytfecadongbmfhaa
open Go.RowKit
set_option linter.unusedVariables false

theorem or_u1 : ∀ op < 256, bits .or .u32 (((inS op).1 : Nat) : Int) ((256 * (inS op).2 : Nat) : Int) = (((inS op).1 + 256 * (inS op).2 : Nat) : Int) := by decide +kernel
theorem or_u2 : ∀ op < 256, bits .or .u32 (((inS op).1 + 256 * (inS op).2 : Nat) : Int) ((4096 * baS (inS op).1 (inS op).2 : Nat) : Int) = (((inS op).1 + 256 * (inS op).2 + 4096 * baS (inS op).1 (inS op).2 : Nat) : Int) := by decide +kernel
theorem or_u3 : ∀ op < 256, bits .or .u32 (((inS op).1 + 256 * (inS op).2 + 4096 * baS (inS op).1 (inS op).2 : Nat) : Int) ((65536 * exS (inS op).1 (inS op).2 : Nat) : Int) = (((inS op).1 + 256 * (inS op).2 + 4096 * baS (inS op).1 (inS op).2 + 65536 * exS (inS op).1 (inS op).2 : Nat) : Int) := by decide +kernel
theorem rof_ins {op : Nat} (ho : op < 256) (h : (inS op).1 ≠ 0) (w : World) : Calls Try.prog 15 #[.int .u8 (op : Int)] w fun e w' => e = .returned (.tuple #[.string (bA (nmS (inS op).1)), .int .i64 ((inS op).2 : Int), .bool true]) ∧ Below w.heap.size w w' := by
  have := refOf_any op ho w
  unfold ofR at this
  rw [if_neg h] at this
  exact this
theorem rof_no {op : Nat} (ho : op < 256) (h : (inS op).1 = 0) (w : World) : Calls Try.prog 15 #[.int .u8 (op : Int)] w fun e w' => e = .returned (.tuple #[.string (bA []), .int .i64 0, .bool false]) ∧ Below w.heap.size w w' := by
  have := refOf_any op ho w
  unfold ofR at this
  rw [if_pos h] at this
  exact this
theorem rnum_ins {op : Nat} (ho : op < 256) (h : (inS op).1 ≠ 0) (w : World) : Calls Try.prog 19 #[.string (bA (nmS (inS op).1))] w fun e w' => e = .returned (.tuple #[.int .i64 (((inS op).1 - 1 : Nat) : Int), .bool true]) ∧ w' = w := by
  have hm := (in_lt op ho).1
  have := refNumber_any (nmS (inS op).1) w
  rw [fi_of _ hm (by omega)] at this
  unfold nuV at this
  rw [if_neg h] at this
  exact this
theorem rcyc_ins {op : Nat} (ho : op < 256) (h : (inS op).1 ≠ 0) (w : World) : Calls Try.prog 17 #[.int .u8 (op : Int)] w fun e w' => e = .returned (.tuple #[.int .i64 (baS (inS op).1 (inS op).2 : Int), .int .i64 (exS (inS op).1 (inS op).2 : Int), .bool true]) ∧ Below w.heap.size w w' := by
  have := refCycles_any op ho w
  unfold cyV at this
  rw [if_neg h] at this
  exact this
theorem w1_step (k : Nat) (i : Nat) : (if i = k then (tdN k : Int) else w1F k i) = w1F (k + 1) i := by
  unfold w1F
  by_cases h : i = k
  · subst h; rw [if_pos rfl, if_pos (by omega)]
  · rw [if_neg h]
    by_cases h2 : i < k
    · rw [if_pos h2, if_pos (by omega)]
    · rw [if_neg h2, if_neg (by omega)]
theorem w1_skip (k : Nat) (h0 : tdN k = 0) (i : Nat) : w1F k i = w1F (k + 1) i := by
  rw [← w1_step]
  by_cases h : i = k
  · subst h; rw [if_pos rfl, h0]; unfold w1F; rw [if_neg (by omega)]; rfl
  · rw [if_neg h]
set_option maxRecDepth 100000 in
set_option maxHeartbeats 3200000 in
theorem refWords_any (w : World) : Calls Try.prog 9 #[] w fun e w' => ∃ g, e = .returned (.slice (some ⟨g, 0, none⟩) 256 256) ∧ w.heap.size ≤ g ∧ RowZ w' g .u32 256 (22 : TypeId) (wdF 56) ∧ Below w.heap.size w w' := by
  have HP : Hid (∀ k : Nat, k < 56 → ∀ w, Calls Try.prog 36 #[.string ⟨#[65, 68, 67, 65, 78, 68, 65, 83, 76, 66, 67, 67, 66, 67, 83, 66, 69, 81, 66, 73, 84, 66, 77, 73, 66, 78, 69, 66, 80, 76, 66, 82, 75, 66, 86, 67, 66, 86, 83, 67, 76, 67, 67, 76, 68, 67, 76, 73, 67, 76, 86, 67, 77, 80, 67, 80, 88, 67, 80, 89, 68, 69, 67, 68, 69, 88, 68, 69, 89, 69, 79, 82, 73, 78, 67, 73, 78, 88, 73, 78, 89, 74, 77, 80, 74, 83, 82, 76, 68, 65, 76, 68, 88, 76, 68, 89, 76, 83, 82, 78, 79, 80, 79, 82, 65, 80, 72, 65, 80, 72, 80, 80, 76, 65, 80, 76, 80, 82, 79, 76, 82, 79, 82, 82, 84, 73, 82, 84, 83, 83, 66, 67, 83, 69, 67, 83, 69, 68, 83, 69, 73, 83, 84, 65, 83, 84, 88, 83, 84, 89, 84, 65, 88, 84, 65, 89, 84, 83, 88, 84, 88, 65, 84, 88, 83, 84, 89, 65]⟩, .int .i64 (k : Int)] w fun e w' => e = .returned (.string (bA (nmS (k + 1)))) ∧ w' = w) := fun k hk w => pickAll_any k hk w
  have HH : Hid (∀ k : Nat, k < 56 → ∀ w, Calls Try.prog 32 #[.string (bA (nmS (k + 1))), .int .i64 7, .int .i64 79] w fun e w' => e = .returned (.tuple #[.int .i64 (hkN k : Int), .int .i64 0]) ∧ Below w.heap.size w w') := fun k hk w => by
    have h := refHash_any (nmS (k + 1)) (by rw [nm_len _ (by omega) (by omega)]; decide) 7 79 w
    rw [show haS (nmS (k + 1)) 7 79 = (hkN k, 0) from if_pos ⟨nm_cap _ (by omega) (by omega), rfl, rfl⟩] at h
    exact h
  have hmk := make_words
  have HR : Hid (RowZ (w.alloc (.cells (rowZ .u32 256 (w1F 0)) 22)) w.heap.size .u32 256 (22 : TypeId) (w1F 0)) := heap_alloc_last _ _
  have HL : Hid (Below w.heap.size w (w.alloc (.cells (rowZ .u32 256 (w1F 0)) 22))) := (Below.refl _ _).alloc (Nat.le_refl _) _
  generalize rowZ .u32 256 (w1F 0) = C0 at *
  go_enter Try.func9, Try.ntmps9
  go_wp2_with fail
  clear hmk
  generalize w.alloc (.cells C0 22) = W0 at *
  go_loopw [2, 3, 4, 5, 6, 7, 8, 9, 10] (fun i _ _ _ _ _ _ _ _ wr => ∃ k : Nat, k ≤ 256 ∧ i = .int .i64 k ∧ RowZ wr w.heap.size .u32 256 (22 : TypeId) (w1F k) ∧ Below w.heap.size w wr) (fun i _ _ _ _ _ _ _ _ _ => 256 - (intOf i).toNat)
  case atStart => exact ⟨0, Nat.zero_le _, rfl, HR.out, HL.out⟩
  case round =>
    obtain ⟨k, hk, rfl, hrow, hbel⟩ := hrel
    have HRW := hidD hrow
    have HBL := hidD hbel
    clear hrow hbel HR HL
    by_cases hlt : k < 256
    · have hlti : (k : Int) < 256 := by omega
      clear HP HH
      by_cases h0 : (inS k).1 = 0
      · have HO := hidD (fun w => rof_no hlt h0 w)
        have HS := hidD (w1_skip k (if_pos h0))
        go_wp2_with (go_at_call 15; refine (HO.out _).mono ?_; rintro e w2 ⟨rfl, hb2⟩)
        go_roundw
        case rel => exact ⟨k + 1, by omega, by go_num, (HRW.out.next hb2).congr fun i _ => HS.out i, Below.next HBL.out hb2⟩
        case measure => simp [intOf]; omega
      · have HO := hidD (fun w => rof_ins hlt h0 w)
        have HU := hidD (fun w => rnum_ins hlt h0 w)
        have HY := hidD (fun w => rcyc_ins hlt h0 w)
        have HT : Hid (tdN k = (inS k).1 + 256 * (inS k).2 + 4096 * baS (inS k).1 (inS k).2 + 65536 * exS (inS k).1 (inS k).2) := if_neg h0
        have HS := hidD (fun i (_ : i < 256) => w1_step k i)
        have HC : Hid (∀ w2 : World, Below wr.heap.size wr w2 → w2.cell? ⟨w.heap.size, k, none⟩ = some (.int .u32 (w1F k k)) ∧ w2.frozen? ⟨w.heap.size, k, none⟩ = false) := fun w2 hb => ⟨(HRW.out.next hb).cell hlt, (HRW.out.next hb).frozen _⟩
        have l1 := in_lt k hlt
        have l2 := ba_le k hlt
        have o1 := or_u1 k hlt
        have o2 := or_u2 k hlt
        have o3 := or_u3 k hlt
        rw [HT.out] at HS
        generalize bA (nmS (inS k).1) = NM at *
        generalize baS (inS k).1 (inS k).2 = B at *
        generalize exS (inS k).1 (inS k).2 = E at *
        generalize (inS k).1 = m at *
        generalize (inS k).2 = kk at *
        have e0 : ((m - 1 : Nat) : Int) + 1 = (m : Int) := by omega
        have hm1 : m - 1 < 56 := by omega
        have s1 : (kk : Int) * 256 = ((256 * kk : Nat) : Int) := by omega
        have s2 : (B : Int) * 4096 = ((4096 * B : Nat) : Int) := by omega
        have s3 : (E : Int) * 65536 = ((65536 * E : Nat) : Int) := by omega
        have t1 : (kk : Int) * 2 ^ 8 = ((256 * kk : Nat) : Int) := by omega
        have t2 : (B : Int) * 2 ^ 12 = ((4096 * B : Nat) : Int) := by omega
        have t3 : (E : Int) * 2 ^ 16 = ((65536 * E : Nat) : Int) := by omega
        have q1 : 256 * kk ≤ 3072 := by omega
        have q2 : 4096 * B ≤ 28672 := by omega
        have q3 : 65536 * E ≤ 65536 := by omega
        have q4 : m + 256 * kk + 4096 * B + 65536 * E < 100000 := by omega
        clear HT h0
        generalize m + 256 * kk + 4096 * B + 65536 * E = X3 at *
        generalize m + 256 * kk + 4096 * B = X2 at *
        generalize m + 256 * kk = X1 at *
        generalize 256 * kk = Y1 at *
        generalize 4096 * B = Y2 at *
        generalize 65536 * E = Y3 at *
        generalize m - 1 = j at *
        go_wp2_with (first | (go_at_call 17; refine (HY.out _).mono ?_; rintro e w4 ⟨rfl, hb4⟩; obtain ⟨c2, c3⟩ := HC.out _ (Below.next hb2 hb4)) | (go_at_call 19; refine (HU.out _).mono ?_; rintro e w3 ⟨rfl, rfl⟩) | (go_at_call 15; refine (HO.out _).mono ?_; rintro e w2 ⟨rfl, hb2⟩))
        go_roundw
        case rel => exact ⟨k + 1, by omega, by go_num, ((HRW.out.next (Below.next hb2 hb4)).set hlt _).congr HS.out, below_setCell (Below.next HBL.out (Below.next hb2 hb4)) (Nat.le_refl _) _ _⟩
        case measure => simp [intOf]; omega
    · obtain rfl : k = 256 := by omega
      have HR0 : Hid (RowZ wr w.heap.size .u32 256 (22 : TypeId) (wdF 0)) := HRW.out.congr (fun i hi => by unfold w1F wdF; rw [if_pos hi, bhN]; simp)
      clear HRW hlt hk
      go_wp2_with fail
      go_loopw [11, 12, 13] (fun i _ _ wr => ∃ k : Nat, k ≤ 56 ∧ i = .int .i64 k ∧ RowZ wr w.heap.size .u32 256 (22 : TypeId) (wdF k) ∧ Below w.heap.size w wr) (fun i _ _ _ => 56 - (intOf i).toNat)
      case atStart => exact ⟨0, Nat.zero_le _, rfl, HR0.out, HBL.out⟩
      case round =>
        obtain ⟨k, hk, rfl, hro, hbel⟩ := hrel
        have HRO := hidD hro
        have HBK := hidD hbel
        clear hro hbel HR0 HBL
        have em : (3 : Int) * (k : Int) = ((3 * k : Nat) : Int) := by omega
        have q3 : 3 * k ≤ 168 := by omega
        by_cases hlt : k < 56
        · have hlti : ((3 * k : Nat) : Int) < 168 := by omega
          have hltn : 3 * k < 168 := by omega
          have HP1 := hidD (HP.out k hlt)
          have HH1 := hidD (HH.out k hlt)
          have hx := hk_lt k
          have hxi : (hkN k : Int) < 256 := by omega
          have hor := or_hash k hlt
          have HWF : Hid (wdF k (hkN k) = (tdN (hkN k) : Int)) := by show _ = _; unfold wdF; rw [bh_free k hlt]; simp
          have HS : Hid (∀ i, i < 256 → (if i = hkN k then ((tdN (hkN k) + 16777216 * (k + 1) : Nat) : Int) else wdF k i) = wdF (k + 1) i) := fun i _ => by
            unfold wdF
            rw [bhN, show hsS (nmS (k + 1)) 7 79 = hkN k from rfl]
            by_cases h : i = hkN k
            · rw [if_pos h, if_pos h, h]
            · rw [if_neg h, if_neg h]
          have HC : Hid (∀ w2 : World, Below wr.heap.size wr w2 → w2.cell? ⟨w.heap.size, hkN k, none⟩ = some (.int .u32 (tdN (hkN k) : Int)) ∧ w2.frozen? ⟨w.heap.size, hkN k, none⟩ = false) := fun w2 hb => ⟨by rw [(HRO.out.next hb).cell hx, HWF.out], (HRO.out.next hb).frozen _⟩
          have e1 : (k : Int) + 1 = ((k + 1 : Nat) : Int) := by omega
          have e2 : ((k + 1 : Nat) : Int) * 2 ^ 24 = ((16777216 * (k + 1) : Nat) : Int) := by omega
          have e3 : ((k + 1 : Nat) : Int) * 16777216 = ((16777216 * (k + 1) : Nat) : Int) := by omega
          have q1 : 16777216 * (k + 1) < 4294967296 := by omega
          clear HH HWF HP
          generalize 3 * k = M at *
          generalize tdN (hkN k) + 16777216 * (k + 1) = Z at *
          generalize 16777216 * (k + 1) = Y at *
          generalize bA (nmS (k + 1)) = NM at *
          have hK : k + 1 ≤ 56 := by omega
          generalize hKK : k + 1 = K at *
          generalize tdN (hkN k) = T at *
          generalize hkN k = X at *
          go_wp2_with (first | (go_at_call 32; refine (HH1.out _).mono ?_; rintro e w2 ⟨rfl, hb2⟩; obtain ⟨c2, c3⟩ := HC.out _ hb2) | (go_at_call 36; refine (HP1.out _).mono ?_; rintro e w1 ⟨rfl, rfl⟩))
          go_roundw
          case rel =>
            subst hKK
            (repeat apply Exists.intro)
            refine And.intro ?_ ?_
            rotate_left
            · rfl
            · exact ⟨k + 1, by omega, by go_num, ((HRO.out.next hb2).set hx _).congr HS.out, below_setCell (Below.next HBK.out hb2) (Nat.le_refl _) _ _⟩
          case measure => simp [intOf]; omega
        · obtain rfl : k = 56 := by omega
          clear HH HP
          go_wp2_with fail
          go_ret
          exact ⟨_, rfl, Nat.le_refl _, HRO.out, HBK.out⟩
end Go.Proofs.Ytfecadongbmfhaa
