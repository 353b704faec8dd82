/- What the program's Rule answers. -/
import Derived.Test.YtdbledfpphkppaaPg4
namespace Go.Proofs.Ytdbledfpphkppaa
open Go.RowKit
set_option linter.unusedVariables false

def prS (p : Nat → Bool) (j : Nat) : Nat := (if p j then sbN j else 0) ||| (if p (usN j) then usN j * 256 else 0)
theorem pr_lt (p : Nat → Bool) {j : Nat} (hj : j < 256) : prS p j < 65536 := by
  have h1 := sbN_lt j
  have h2 := us_lt hj
  unfold prS
  refine Nat.or_lt_two_pow (n := 16) ?_ ?_
  · split <;> omega
  · split <;> omega
theorem pr_step {p : Nat → Bool} {b : Nat} (hb : b < 256) (hp : p b = false) {j : Nat} (hj : j < 256) :
    (if j = sbN b then prS p (sbN b) ||| b * 256 else if j = b then prS p b ||| sbN b else prS p j) = prS (fun x => p x || x == b) j := by
  have hu := us_sb hb
  have hv := us_sb hj
  by_cases h1 : j = sbN b
  · subst h1
    have hne : (sbN b == b) = false := by simpa using hu.2.2.2.1
    rw [if_pos rfl]
    unfold prS
    simp only [hu.1, hp, hne, Bool.or_false, Bool.false_or, beq_self_eq_true, if_true]
    simp
  · rw [if_neg h1]
    have hnk : (usN j == b) = false := by
      have : usN j ≠ b := fun h => h1 (by rw [← h, hv.2.1])
      simpa using this
    by_cases h2 : j = b
    · subst h2
      rw [if_pos rfl]
      unfold prS
      simp only [hp, hnk, Bool.or_false, Bool.false_or, beq_self_eq_true, if_true]
      simp [Nat.or_comm]
    · rw [if_neg h2]
      have h2' : (j == b) = false := by simpa using h2
      unfold prS
      simp only [hnk, h2', Bool.or_false]
def qm : Nat → Nat → Bool
  | 0, x => false || x == 0
  | n + 1, x => qm n x || x == (pw 27 3 n).toNat
theorem qm_iff : ∀ n x, qm n x = true ↔ x = 0 ∨ ∃ i, i < n ∧ (pw 27 3 i).toNat = x
  | 0, x => by simp [qm]
  | n + 1, x => by
    rw [qm, Bool.or_eq_true, qm_iff n x, beq_iff_eq]
    constructor
    · rintro ((h | ⟨i, hi, he⟩) | h)
      · exact .inl h
      · exact .inr ⟨i, by omega, he⟩
      · exact .inr ⟨n, by omega, h.symm⟩
    · rintro (h | ⟨i, hi, he⟩)
      · exact .inl (.inl h)
      · by_cases hin : i = n
        · subst hin; exact .inr he.symm
        · exact .inl (.inr ⟨i, by omega, he⟩)
theorem qm_new {n : Nat} (hn : n < 255) : qm n (pw 27 3 n).toNat = false := by
  cases h : qm n (pw 27 3 n).toNat with
  | false => rfl
  | true =>
    rcases (qm_iff n _).1 h with h0 | ⟨i, hi, he⟩
    · exact absurd (UInt8.toNat.inj (b := 0) h0) (pw_ne gen_b n)
    · have := pw_inj gen_b (i := i) (j := n) (by omega) hn (UInt8.toNat.inj he)
      omega
theorem qm_all {x : Nat} (hx : x < 256) : qm 255 x = true := by
  refine (qm_iff 255 x).2 ?_
  by_cases h : x = 0
  · exact .inl h
  · have : UInt8.ofNat x ≠ 0 := fun he => by
      have := congrArg UInt8.toNat he
      rw [u8_nat hx] at this; exact h this
    obtain ⟨n, hn, he⟩ := pw_all gen_b this
    exact .inr ⟨n, hn, by rw [he, u8_nat hx]⟩
theorem pr_all {j : Nat} (hj : j < 256) : prS (qm 255) j = basW j := by
  unfold prS basW; rw [qm_all hj, qm_all (us_lt hj)]; rfl
theorem back_pw : (246 : UInt8) = pw 27 3 254 := by
  have h : inv 27 3 = ivs 3 := inv_ivs 3
  rw [show ivs 3 = 246 by decide +kernel] at h
  exact h.symm
theorem sub_pw (n : Nat) : affS (pw 27 246 n) = subS (pw 27 3 n) := by
  have : pw 27 246 n = inv 27 (pw 27 3 n) := by
    unfold inv
    rw [back_pw, pw_mul, pw_mul, Nat.mul_comm]
  rw [this]; rfl
theorem rnd_pw (k : Nat) : (pw 27 2 k).toNat = rndS ((k + 1 : Nat) : Int) := by
  have h51 : pw 27 2 51 = 1 := by decide +kernel
  unfold rndS
  rw [if_neg (by omega), pw_modk h51 k, show ((((k + 1 : Nat) : Int) - 1) % 51).toNat = k % 51 by omega]
set_option maxRecDepth 100000 in
set_option maxHeartbeats 400000 in
theorem pLay_any (F : Nat → Nat) (hF : ∀ j, j < 256 → F j < 65536) (g b s : Nat) (hb : b < 256) (hs : s < 256) (hne : s ≠ b) (w : World) (h : RowZ w g .u32 256 25 (fun j => (F j : Int))) :
    Calls Try.prog 62 #[.slice (some ⟨g, 0, none⟩) 256 256, .int .u8 (b : Int), .int .u8 (s : Int)] w fun e w' => e = .returned (.tuple #[]) ∧ RowZ w' g .u32 256 25 (fun j => ((if j = s then F s ||| b * 256 else if j = b then F b ||| s else F j : Nat) : Int)) ∧ But g w w' := by
  have hbi : (b : Int) < 256 := by omega
  have hsi : (s : Int) < 256 := by omega
  have hc1 : w.cell? ⟨g, b, none⟩ = some (.int .u32 (F b : Int)) := h.cell hb
  have hf1 := h.frozen b
  have h1 := hF b hb
  have h2 := hF s hs
  have e1 : bits .or .u32 (F b : Int) (s : Int) = ((F b ||| s : Nat) : Int) := u32_or_nat _ _ (by omega) (by omega)
  have e2 : bits .or .u32 (F s : Int) ((b : Int) * 256) = ((F s ||| b * 256 : Nat) : Int) := by
    rw [show (256 : Int) = ((256 : Nat) : Int) from rfl, u32_shl_or (by omega) (by omega)]
  have hr1 := h.set hb ((F b ||| s : Nat) : Int)
  have hc2 : (w.setCell ⟨g, b, none⟩ (.int .u32 ((F b ||| s : Nat) : Int))).cell? ⟨g, s, none⟩ = some (.int .u32 (F s : Int)) := by
    have := hr1.cell hs
    rw [if_neg hne] at this; exact this
  have hf2 := hr1.frozen s
  have HR : Hid (RowZ ((w.setCell ⟨g, b, none⟩ (.int .u32 ((F b ||| s : Nat) : Int))).setCell ⟨g, s, none⟩ (.int .u32 ((F s ||| b * 256 : Nat) : Int))) g .u32 256 25 (fun j => ((if j = s then F s ||| b * 256 else if j = b then F b ||| s else F j : Nat) : Int))) := (hr1.set hs _).congr fun j _ => by
    by_cases h1 : j = s
    · rw [if_pos h1, if_pos h1]
    · rw [if_neg h1, if_neg h1]
      by_cases h2 : j = b
      · rw [if_pos h2, if_pos h2]
      · rw [if_neg h2, if_neg h2]
  clear hr1 h hF
  generalize F b ||| s = X at *
  generalize F s ||| b * 256 = Y at *
  generalize F b = fb at *
  generalize F s = fs at *
  go_enter Try.func62, Try.ntmps62
  go_wp2_with fail
  refine bodyPost_end (v := .tuple #[]) (by simp [results, Try.results62, go_sem]) rfl ?_
  exact ⟨rfl, HR.out, ((But.refl _ _).put _ _).put _ _⟩
theorem aff_zero : affS 0 = subS 0 := by unfold subS inv; rw [show (254 : Nat) = 253 + 1 from rfl, pw_zero']
theorem rnd_zero : rndS 0 = 0 := rfl
set_option maxRecDepth 100000 in
set_option maxHeartbeats 1600000 in
theorem pRule_any (w : World) : Calls Try.prog 38 #[] w fun e w' => ∃ v, e = .returned v ∧ WdAt w' w.heap.size v (ruT 256) ∧ Below w.heap.size w w' := by
  have HA0 : Hid (∀ w, Calls Try.prog 9 #[.int .u8 0] w fun e w' => e = .returned (.int .u8 ((sbN 0 : Nat) : Int)) ∧ Below w.heap.size w w') := fun w => by
    have := pAffine_any 0 w
    rw [aff_zero, sub_sb] at this; exact this
  have HA : Hid (∀ k w, Calls Try.prog 9 #[.int .u8 ((pw 27 246 k).toNat : Int)] w fun e w' => e = .returned (.int .u8 ((sbN (pw 27 3 k).toNat : Nat) : Int)) ∧ Below w.heap.size w w') := fun k w => by
    have := pAffine_any (pw 27 246 k) w
    rw [sub_pw, sub_sb] at this; exact this
  have HL := hidD (fun F hF g b s hb hs hne w h => pLay_any F hF g b s hb hs hne w h)
  have HC3 : Hid (∀ k w, Calls Try.prog 63 #[.int .u8 ((pw 27 3 k).toNat : Int), .int .u8 3, .int .i64 283] w fun e w' => e = .returned (.int .u8 ((pw 27 3 (k + 1)).toNat : Int)) ∧ w' = w) := fun k w => carry_in 27 (pw 27 3 k) 3 283 rfl w
  have HC6 : Hid (∀ k w, Calls Try.prog 63 #[.int .u8 ((pw 27 246 k).toNat : Int), .int .u8 246, .int .i64 283] w fun e w' => e = .returned (.int .u8 ((pw 27 246 (k + 1)).toNat : Int)) ∧ w' = w) := fun k w => carry_in 27 (pw 27 246 k) 246 283 rfl w
  have HC2 : Hid (∀ k w, Calls Try.prog 63 #[.int .u8 ((pw 27 2 k).toNat : Int), .int .u8 2, .int .i64 283] w fun e w' => e = .returned (.int .u8 ((pw 27 2 (k + 1)).toNat : Int)) ∧ w' = w) := fun k w => carry_in 27 (pw 27 2 k) 2 283 rfl w
  have HD : Hid (∀ k : Nat, k < 256 → ∀ w, Calls Try.prog 63 #[.int .u8 2, .int .u8 (k : Int), .int .i64 283] w fun e w' => e = .returned (.int .u8 (dbS k : Int)) ∧ Below w.heap.size w w') := fun k hk w => by
    have := carry_in 27 2 (UInt8.ofNat k) 283 rfl w
    rw [u8_nat hk, bm_comm] at this; exact this.mono fun e w' h => ⟨h.1, by rw [h.2]; exact Below.refl _ _⟩
  have HZ : Hid (RowZ w 0 .u32 256 25 (fun _ => 0) → True) := fun _ => trivial
  obtain ⟨i0, hi, hz0, hz1, hz2⟩ := info_parts Try.info25
  go_enter Try.func38, Try.ntmps38
  go_wp2_with (first
    | (at_make; refine wpList_make_full _ rfl _ _ 48 rfl w.heap.size 25 i0 (.int .u32 0) 1 Try.underlying48 hi hz0 hz1 _ _ _ _ 256 rfl rfl rfl rfl (by rw [hz2]; omega) (by unfold maxLen; omega) (Nat.le_refl _) ?_; intro w3 hown3 hg3; have HR3 := hidD (rowZ_of_made hown3); have HB3 : Hid (Below w.heap.size w w3) := ((Below.refl w.heap.size w).grown hg3 (Nat.le_refl _) (fun k hk => by cases hk)); clear hown3 hg3)
    | (go_at_call 9; refine (HA0.out _).mono ?_; rintro e w4 ⟨rfl, hb4⟩; have HR4 : Hid (RowZ w4 w.heap.size .u32 256 25 (fun j => ((prS (fun _ => false) j : Nat) : Int))) := HR3.out.next hb4; have HB4 : Hid (Below w.heap.size w w4) := Below.next HB3.out hb4; clear hb4 HA0)
    | (go_at_call 62; refine (HL.out (prS (fun _ => false)) (fun j hj => pr_lt _ hj) w.heap.size 0 (sbN 0) (by omega) (sbN_lt 0) (us_sb (x := 0) (by omega)).2.2.2.1 w4 HR4.out).mono ?_; rintro e w5 ⟨rfl, hr5, hb5⟩; have HR5 : Hid (RowZ w5 w.heap.size .u32 256 25 (fun j => ((prS (qm 0) j : Nat) : Int))) := (hr5.congr fun j hj => by rw [pr_step (b := 0) (by omega) rfl hj]; rfl); have HB5 : Hid (Below w.heap.size w w5) := HB4.out.trans hb5.bel; clear hr5 hb5))
  generalize hg : w.heap.size = g at *
  have HG := hidD hg
  clear hg HR3 HB3 HR4 HB4
  go_loopw [2, 3, 10] (fun x y i wr => ∃ k : Nat, k ≤ 255 ∧ i = .int .i64 k ∧ x = .int .u8 ((pw 27 3 k).toNat : Int) ∧ y = .int .u8 ((pw 27 246 k).toNat : Int) ∧ RowZ wr g .u32 256 25 (fun j => ((prS (qm k) j : Nat) : Int)) ∧ Below g w wr) (fun _ _ i _ => 255 - (intOf i).toNat)
  case atStart => exact ⟨0, Nat.zero_le _, rfl, rfl, rfl, HR5.out, HB5.out⟩
  case round =>
    obtain ⟨k, hk, rfl, rfl, rfl, hrow, hbel⟩ := hrel
    have HBL := hidD hbel
    have HRW := hidD hrow
    by_cases hlt : k < 255
    · have hlti : (k : Int) < 255 := by omega
      have HAk := hidD (HA.out k)
      have HC3k := hidD (HC3.out k)
      have HC6k := hidD (HC6.out k)
      have HLk : Hid (∀ w, RowZ w g .u32 256 25 (fun j => ((prS (qm k) j : Nat) : Int)) → Calls Try.prog 62 #[.slice (some ⟨g, 0, none⟩) 256 256, .int .u8 ((pw 27 3 k).toNat : Int), .int .u8 ((sbN (pw 27 3 k).toNat : Nat) : Int)] w fun e w' => e = .returned (.tuple #[]) ∧ RowZ w' g .u32 256 25 (fun j => ((prS (qm (k + 1)) j : Nat) : Int)) ∧ But g w w') := fun w h =>
        (HL.out (prS (qm k)) (fun j hj => pr_lt _ hj) g (pw 27 3 k).toNat (sbN (pw 27 3 k).toNat) (u8_lt _) (sbN_lt _) (us_sb (u8_lt _)).2.2.2.1 w h).mono fun e w' ⟨h1, h2, h3⟩ => ⟨h1, h2.congr fun j hj => by rw [pr_step (u8_lt _) (qm_new hlt) hj]; rfl, h3⟩
      generalize hx3 : ((pw 27 3 (k + 1)).toNat : Int) = X3 at *
      generalize hx6 : ((pw 27 246 (k + 1)).toNat : Int) = X6 at *
      have HX3 := hidD hx3
      have HX6 := hidD hx6
      clear hx3 hx6 hrow hbel
      generalize ((sbN (pw 27 3 k).toNat : Nat) : Int) = Z at *
      generalize ((pw 27 3 k).toNat : Int) = Y3 at *
      generalize ((pw 27 246 k).toNat : Int) = Y6 at *
      go_wp2_with (first
        | (go_at_call 9; refine (HAk.out _).mono ?_; rintro e w6 ⟨rfl, hb6⟩; have HR6 := hidD (HRW.out.next hb6); have HB6 : Hid (Below g w w6) := HBL.out.trans (hb6.mono (Nat.le_of_lt HRW.out.lt)); clear hb6 HAk)
        | (go_at_call 62; refine (HLk.out _ HR6.out).mono ?_; rintro e w7 ⟨rfl, hr7, hb7⟩; have HR7 := hidD hr7; have HB7 : Hid (Below g w w7) := HB6.out.trans hb7.bel; clear hr7 hb7)
        | (go_at_call 63; refine (HC3k.out _).mono ?_; rintro e w8 ⟨rfl, hw8⟩; clear HC3k)
        | (go_at_call 63; refine (HC6k.out _).mono ?_; rintro e w9 ⟨rfl, hw9⟩; clear HC6k))
      subst hw8 hw9
      go_roundw
      case rel => exact ⟨k + 1, by omega, by go_num, by rw [HX3.out], by rw [HX6.out], HR7.out, HB7.out⟩
      case measure => simp [intOf]; omega
    · obtain rfl : k = 255 := by omega
      have HRB : Hid (RowZ wr g .u32 256 25 (fun j => ((if j < 0 then ruT 256 j else basW j : Nat) : Int))) := hrow.congr fun j hj => by rw [pr_all hj, if_neg (by omega)]
      clear hrow hbel
      go_wp2_with fail
      go_loopw [4, 24] (fun x i wr => ∃ k : Nat, k ≤ 256 ∧ i = .int .i64 k ∧ x = .int .u8 ((pw 27 2 (k - 1)).toNat : Int) ∧ RowZ wr g .u32 256 25 (fun j => ((if j < k then ruT 256 j else basW j : Nat) : Int)) ∧ Below g w wr) (fun _ i _ => 256 - (intOf i).toNat)
      case atStart => exact ⟨0, Nat.zero_le _, rfl, rfl, HRB.out, HBL.out⟩
      case round =>
        obtain ⟨k, hk, rfl, rfl, hrow, hbel⟩ := hrel
        have HBL := hidD hbel
        have HRW := hidD hrow
        by_cases hlt : k < 256
        · have hlti : (k : Int) < 256 := by omega
          have hk0 : (0 : Int) ≤ k := by omega
          have hmod : (k : Int) % 256 = k := by omega
          have hbl := bas_lt hlt
          have hdl := db_lt k
          have hco : ∀ i : BW wr, i.v.cell? ⟨g, k, none⟩ = some (.int .u32 (basW k : Int)) := fun i => by
            have := hrow.cell hlt
            rw [if_neg (by omega)] at this
            exact (i.below.cell (p := ⟨g, k, none⟩) hrow.lt).trans this
          have hfo : ∀ i : BW wr, i.v.frozen? ⟨g, k, none⟩ = false := fun i => (i.below.frozen (p := ⟨g, k, none⟩) hrow.lt).trans (hrow.frozen k)
          obtain ⟨X1, HX1⟩ : ∃ X : Nat, Hid (basW k ||| dbS k * 65536 = X) := ⟨_, rfl⟩
          have e1 : bits .or .u32 (basW k : Int) ((dbS k : Int) * 65536) = ((X1 : Nat) : Int) := by
            rw [show (65536 : Int) = ((65536 : Nat) : Int) from rfl, u32_shl_or (by omega) (by omega), HX1.out]
          have l1 : X1 < 4294967296 := by rw [← HX1.out]; exact or_lt32 (by omega) (by omega)
          have HR1 : Hid (∀ i : BW wr, RowZ (i.v.setCell ⟨g, k, none⟩ (.int .u32 ((X1 : Nat) : Int))) g .u32 256 25 (fun j => ((if j = k then X1 else if j < k then ruT 256 j else basW j : Nat) : Int))) := fun i =>
            ((hrow.next i.below).set hlt _).congr fun j _ => by split <;> rfl
          have HB1 : Hid (∀ (i : BW wr) v, Below g w (i.v.setCell ⟨g, k, none⟩ v)) := fun i v => below_setCell (hbel.trans (i.below.mono (Nat.le_of_lt hrow.lt))) (Nat.le_refl _) _ v
          have HDk := hidD (HD.out k hlt)
          have HRU : Hid (X1 ||| rndS (k : Int) * 16777216 = ruT 256 k) := by show _ = _; rw [← HX1.out]; exact ru_all hlt
          clear hrow hbel
          by_cases h0 : k = 0
          · subst h0
            have HV : Hid (X1 = ruT 256 0) := by
              show _ = _
              have := HRU.out
              rw [show rndS ((0 : Nat) : Int) = 0 from rfl, Nat.zero_mul, Nat.or_zero] at this
              exact this
            generalize basW 0 = B0 at *
            generalize dbS 0 = D0 at *
            generalize hY : ((pw 27 2 (0 - 1)).toNat : Int) = Y at *
            have HY := hidD hY
            clear hY
            go_wp2_with fail
            refine wp_region_put (by simp) (by kernel_rfl) rfl (by kernel_rfl) (by kernel_rfl) (by kernel_rfl) ?_
            simp only [List.dropLast_cons_cons, List.dropLast_singleton, List.getLast_cons_cons, List.getLast_singleton, List.cons_append, List.nil_append, mute]
            repeat (go_big_quiet_step ((go_at_call 63; exact Calls.below_of (HDk.out _))))
            refine wpQuiet_nil ?_
            intro i
            go_wp2_with fail
            go_roundw
            case rel =>
              refine ⟨1, by omega, rfl, by rw [← HY.out], (HR1.out i).congr fun j hj => ?_, HB1.out _ _⟩
              by_cases h1 : j = 0
              · rw [if_pos h1, if_pos (by omega), HV.out, h1]
              · rw [if_neg h1, if_neg (by omega), if_neg (by omega)]
            case measure => simp [intOf]
          · have hk1 : (0 : Int) < k := by omega
            have hrl : (pw 27 2 (k - 1)).toNat < 256 := u8_lt _
            have HCk := hidD (HC2.out (k - 1))
            obtain ⟨X2, HX2⟩ : ∃ X : Nat, Hid (X1 ||| (pw 27 2 (k - 1)).toNat * 16777216 = X) := ⟨_, rfl⟩
            have HX : Hid (pw 27 2 (k - 1 + 1) = pw 27 2 (k + 1 - 1)) := by show _ = _; rw [show k - 1 + 1 = k + 1 - 1 by omega]
            have HV : Hid (X2 = ruT 256 k) := by
              show _ = _
              rw [← HRU.out, ← HX2.out, rnd_pw (k - 1), show k - 1 + 1 = k by omega]
            have e2 : bits .or .u32 ((X1 : Nat) : Int) (((pw 27 2 (k - 1)).toNat : Int) * 16777216) = ((X2 : Nat) : Int) := by
              rw [show (16777216 : Int) = ((16777216 : Nat) : Int) from rfl, u32_shl_or l1 (by omega), HX2.out]
            have hco2 : ∀ i : BW wr, (i.v.setCell ⟨g, k, none⟩ (.int .u32 ((X1 : Nat) : Int))).cell? ⟨g, k, none⟩ = some (.int .u32 ((X1 : Nat) : Int)) := fun i => by
              have := (HR1.out i).cell hlt
              rw [if_pos rfl] at this; exact this
            have hfo2 : ∀ i : BW wr, (i.v.setCell ⟨g, k, none⟩ (.int .u32 ((X1 : Nat) : Int))).frozen? ⟨g, k, none⟩ = false := fun i => (HR1.out i).frozen k
            have HR2 : Hid (∀ i : BW wr, RowZ ((i.v.setCell ⟨g, k, none⟩ (.int .u32 ((X1 : Nat) : Int))).setCell ⟨g, k, none⟩ (.int .u32 ((X2 : Nat) : Int))) g .u32 256 25 (fun j => ((if j < k + 1 then ruT 256 j else basW j : Nat) : Int))) := fun i =>
              ((HR1.out i).set hlt _).congr fun j _ => by
                by_cases h1 : j = k
                · rw [if_pos h1, if_pos (by omega), HV.out, h1]
                · rw [if_neg h1, if_neg h1]
                  by_cases h2 : j < k
                  · rw [if_pos h2, if_pos (by omega)]
                  · rw [if_neg h2, if_neg (by omega)]
            have HB2 : Hid (∀ (i : BW wr) u v, Below g w ((i.v.setCell ⟨g, k, none⟩ u).setCell ⟨g, k, none⟩ v)) := fun i u v => below_setCell (HB1.out i u) (Nat.le_refl _) _ v
            clear HR1 HV HX1 HX2 HRU
            generalize basW k = B0 at *
            generalize dbS k = D0 at *
            generalize hZ : ((pw 27 2 (k - 1 + 1)).toNat : Int) = Z at *
            have HZ2 := hidD hZ
            clear hZ
            generalize (pw 27 2 (k - 1)).toNat = Y at *
            go_wp2_with fail
            refine wp_region_put (by simp) (by kernel_rfl) rfl (by kernel_rfl) (by kernel_rfl) (by kernel_rfl) ?_
            simp only [List.dropLast_cons_cons, List.dropLast_singleton, List.getLast_cons_cons, List.getLast_singleton, List.cons_append, List.nil_append, mute]
            repeat (go_big_quiet_step ((go_at_call 63; exact Calls.below_of (HDk.out _))))
            refine wpQuiet_nil ?_
            intro i
            go_wp2_with (go_at_call 63; refine (HCk.out _).mono ?_; rintro e w9 ⟨rfl, hw9⟩; clear HCk)
            subst hw9
            go_roundw
            case rel =>
              repeat apply Exists.intro
              refine And.intro (a := _) (b := _) ?one ?two
              case two => rfl
              exact ⟨k + 1, by omega, by go_num, by rw [← HX.out, HZ2.out], HR2.out i, HB2.out _ _ _⟩
            case measure => simp [intOf]; omega
        · obtain rfl : k = 256 := by omega
          clear hrow hbel
          go_wp2_with fail
          go_ret
          refine ⟨_, rfl, ⟨g, 256, _, rfl, Nat.le_of_eq HG.out, HRW.out, fun j hj => ?_⟩, by rw [HG.out]; exact HBL.out⟩
          rw [rowZ_get .u32 256 _ j hj, if_pos hj]
end Go.Proofs.Ytdbledfpphkppaa
