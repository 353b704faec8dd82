/- What the program's Words and Rule answer. -/
import Derived.Test.YtdbledfpphkppaaPg3
namespace Go.Proofs.Ytdbledfpphkppaa
open Go.RowKit
set_option linter.unusedVariables false

/-- A slice value of 256 words, in a block of its own that is not below base. -/
def WdAt (w : World) (base : Nat) (v : Value) (f : Nat → Nat) : Prop := ∃ g cap cs, v = .slice (some ⟨g, 0, none⟩) 256 cap ∧ base ≤ g ∧ w.heap[g]? = some (.cells cs (25 : TypeId) (0, 0)) ∧ ∀ j, j < 256 → cs[j]? = some (.int .u32 (f j : Int))
def basW (j : Nat) : Nat := sbN j ||| usN j * 256
theorem us_lt {j : Nat} (hj : j < 256) : usN j < 256 := (us_sb hj).2.2.1
theorem ru_all {j : Nat} (hj : j < 256) : basW j ||| dbS j * 65536 ||| rndS (j : Int) * 16777216 = ruT 256 j := by
  unfold ruT lowW basW
  rw [if_pos hj, if_pos (us_lt hj)]
  apply Nat.eq_of_testBit_eq
  intro i
  simp only [Nat.testBit_or]
  ac_rfl
theorem bas_lt {j : Nat} (hj : j < 256) : basW j < 65536 := by
  have h1 := sbN_lt j
  have h2 := us_lt hj
  exact Nat.or_lt_two_pow (n := 16) (by omega) (by omega)
theorem u32_shl_or {a b c : Nat} (ha : a < 4294967296) (hc : b * c < 4294967296) : bits .or .u32 (a : Int) ((b : Int) * (c : Int)) = ((a ||| b * c : Nat) : Int) := by
  rw [show (b : Int) * (c : Int) = ((b * c : Nat) : Int) by simp, u32_or_nat _ _ ha hc]
set_option maxRecDepth 100000 in
set_option maxHeartbeats 400000 in
theorem pWordOf_any (b : Nat) (hb : b < 256) (w : World) : Calls Try.prog 61 #[.int .u8 (b : Int)] w fun e w' => e = .returned (.int .u32 ((ruT 256 b : Nat) : Int)) ∧ Below w.heap.size w w' := by
  have hbn := u8_nat hb
  have HS := hidD (fun w => pSub_any (UInt8.ofNat b) w)
  have HU := hidD (fun w => pUnsub_any (UInt8.ofNat b) w)
  have HM := hidD (fun w => gmul_any 2 (UInt8.ofNat b) w)
  have HR := hidD (fun w => pRound_any (b : Int) (by omega) w)
  rw [sub_sb, hbn] at HS
  unfold unsS at HU
  rw [hbn] at HU
  rw [bm_comm, hbn, show (bm 27 (UInt8.ofNat b) 2).toNat = dbS b from rfl] at HM
  have h1 := sbN_lt b
  have h2 := us_lt hb
  have h3 := db_lt b
  have h4 := rnd_lt (b : Int)
  have HE : Hid (bits .or .u32 (bits .or .u32 (bits .or .u32 (sbN b : Int) ((usN b : Int) * 256)) ((dbS b : Int) * 65536)) ((rndS (b : Int) : Int) * 16777216) = ((ruT 256 b : Nat) : Int)) := by
    show _ = _
    have l1 : sbN b ||| usN b * 256 < 4294967296 := or_lt32 (by omega) (by omega)
    rw [show (256 : Int) = ((256 : Nat) : Int) from rfl, show (65536 : Int) = ((65536 : Nat) : Int) from rfl, show (16777216 : Int) = ((16777216 : Nat) : Int) from rfl, u32_shl_or (by omega) (by omega), u32_shl_or l1 (by omega), u32_shl_or (or_lt32 l1 (by omega)) (by omega), ← ru_all hb]
    rfl
  clear hbn
  generalize sbN b = s at *
  generalize usN b = u at *
  generalize dbS b = d at *
  generalize rndS (b : Int) = r at *
  generalize ruT 256 b = R at *
  go_enter Try.func61, Try.ntmps61
  go_wp2_with (first | (go_at_call 11; refine (HS.out _).mono ?_; rintro e w1 ⟨rfl, hb1⟩) | (go_at_call 13; refine (HU.out _).mono ?_; rintro e w2 ⟨rfl, hb2⟩) | (go_at_call 48; refine (HM.out _).mono ?_; rintro e w3 ⟨rfl, rfl⟩) | (go_at_call 21; refine (HR.out _).mono ?_; rintro e w4 ⟨rfl, hb4⟩))
  refine bodyPost_ret (v := .int .u32 (R : Int)) (by simp [results, Try.results61, go_sem]; exact HE.out) rfl ?_
  exact ⟨rfl, Below.next (Below.next hb1 hb2) hb4⟩
set_option maxRecDepth 100000 in
set_option maxHeartbeats 400000 in
theorem pWords_any (w : World) : Calls Try.prog 37 #[] w fun e w' => ∃ v, e = .returned v ∧ WdAt w' w.heap.size v (ruT 256) ∧ Below w.heap.size w w' := by
  have HWO := hidD (fun b hb w => pWordOf_any b hb w)
  have HLT := hidD (fun j => ru_lt (k := 256) (j := j) (Nat.le_refl _))
  obtain ⟨i0, hi, hz0, hz1, hz2⟩ := info_parts Try.info25
  go_enter Try.func37, Try.ntmps37
  go_wp2_with (at_make; refine wpList_make_full _ rfl _ _ 48 rfl w.heap.size 25 i0 (.int .u32 0) 1 Try.underlying48 hi hz0 hz1 _ _ _ _ 256 rfl rfl rfl rfl (by rw [hz2]; omega) (by unfold maxLen; omega) (Nat.le_refl _) ?_; intro w3 hown3 hg3; have HR3 := hidD (rowZ_of_made hown3); have HB3 : Hid (Below w.heap.size w w3) := ((Below.refl w.heap.size w).grown hg3 (Nat.le_refl _) (fun k hk => by cases hk)); clear hown3 hg3)
  generalize hg : w.heap.size = g at *
  have HG := hidD hg
  clear hg
  go_loopw [6] (fun i wr => ∃ k : Nat, k ≤ 256 ∧ i = .int .i64 k ∧ RowZ wr g .u32 256 25 (fun j => ((if j < k then ruT 256 j else 0 : Nat) : Int)) ∧ Below g w wr) (fun i _ => 256 - (intOf i).toNat)
  case atStart => exact ⟨0, Nat.zero_le _, rfl, HR3.out, HB3.out⟩
  case round =>
    obtain ⟨k, hk, rfl, hrow, hbel⟩ := hrel
    have HBL := hidD hbel
    have HRW := hidD hrow
    by_cases hlt : k < 256
    · have hlti : (k : Int) < 256 := by omega
      have hk0 : (0 : Int) ≤ k := by omega
      have hmod : (k : Int) % 256 = k := by omega
      have HK := hidD (HWO.out k hlt)
      generalize hr : ruT 256 k = R at *
      have HRR := hidD hr
      clear hrow hbel hr
      go_wp2_with (go_at_call 61; refine (HK.out _).mono ?_; rintro e w4 ⟨rfl, hb4⟩; have hr4 := HRW.out.next hb4; have hc4 := hr4.cell hlt; have hf4 := hr4.frozen k; have HR4 : Hid (RowZ (w4.setCell ⟨g, k, none⟩ (.int .u32 (R : Int))) g .u32 256 25 (fun j => ((if j < k + 1 then ruT 256 j else 0 : Nat) : Int))) := ((hr4.set hlt _).congr fun j _ => by by_cases h1 : j = k; rw [if_pos h1, if_pos (by omega), h1, HRR.out]; rw [if_neg h1]; by_cases h2 : j < k; rw [if_pos h2, if_pos (by omega)]; rw [if_neg h2, if_neg (by omega)]); have HB4 : Hid (∀ v, Below g w (w4.setCell ⟨g, k, none⟩ v)) := fun v => below_setCell (HBL.out.trans (hb4.mono (Nat.le_of_lt HRW.out.lt))) (Nat.le_refl _) _ v; clear hb4 hr4)
      go_roundw
      case rel => exact ⟨k + 1, by omega, by go_num, HR4.out, HB4.out _⟩
      case measure => simp [intOf]; omega
    · obtain rfl : k = 256 := by omega
      clear hrow hbel
      go_wp2_with fail
      go_ret
      refine ⟨_, rfl, ⟨g, 256, _, rfl, Nat.le_of_eq HG.out, HRW.out, fun j hj => ?_⟩, by rw [HG.out]; exact HBL.out⟩
      rw [rowZ_get .u32 256 _ j hj, if_pos hj]
end Go.Proofs.Ytdbledfpphkppaa
