/- Texts of one proof, one behind the other. -/
import Derived.Test.YtnldpofljeodiaaGd
import Derived.Test.YtnldpofljeodiaaEx1
/- What behind of the document's answer for layer 8 answers: plain facts. -/
namespace Go.Proofs.Ytnldpofljeodiaa
open Go.RowKit
set_option linter.unusedVariables false

def pdR (bk n m : Nat) : List Value := (List.range m).map fun j => Value.int .u8 ((pdS bk n j).toNat : Int)
theorem pdR_next (bk n m : Nat) : pdR bk n (m + 1) = pdR bk n m ++ [.int .u8 ((pdS bk n m).toNat : Int)] := by simp [pdR, List.range_succ]
theorem rm_bound (bk n : Nat) (hb : bk = 64 ∨ bk = 128) : 1 + bk / 8 ≤ rmS bk n ∧ rmS bk n ≤ bk + bk / 8 ∧ (n + rmS bk n) % bk = 0 := by
  rcases hb with rfl | rfl <;> unfold rmS <;> split <;> omega
theorem bh_stop (bk n m : Nat) (hb : bk = 64 ∨ bk = 128) (h1 : 1 ≤ m) (h2 : m ≤ rmS bk n - bk / 8) : (n + (m + bk / 8)) % bk = 0 ↔ m = rmS bk n - bk / 8 := by
  rcases hb with rfl | rfl <;> unfold rmS at * <;> split at h2 <;> rename_i hs <;> (try rw [if_pos hs]) <;> (try rw [if_neg hs]) <;> constructor <;> intro h <;> omega
theorem bh_zero (bk n m : Nat) (h1 : 1 ≤ m) (h2 : m < rmS bk n - bk / 8) : pdS bk n m = 0 := by
  unfold pdS; rw [if_neg (by omega), if_neg (by omega)]
theorem bh_low (bk n s : Nat) (hb : bk = 64 ∨ bk = 128) (hs : s < 8) : (pdS bk n (rmS bk n - 8 + s)).toNat = n * 8 % 18446744073709551616 / 2 ^ (56 - 8 * s) % 256 := by
  have h := rm_bound bk n hb
  have e : rmS bk n - 1 - (rmS bk n - 8 + s) = 7 - s := by omega
  unfold pdS
  rw [if_neg (by omega), if_pos (by omega), e]
  rcases (show s = 0 ∨ s = 1 ∨ s = 2 ∨ s = 3 ∨ s = 4 ∨ s = 5 ∨ s = 6 ∨ s = 7 by omega) with rfl | rfl | rfl | rfl | rfl | rfl | rfl | rfl <;> simp <;> omega
theorem bh_high (n s : Nat) (hs : s < 8) : (pdS 128 n (rmS 128 n - 16 + s)).toNat = n / 2 ^ 61 / 2 ^ (56 - 8 * s) % 256 := by
  have h := rm_bound 128 n (.inr rfl)
  have e : rmS 128 n - 1 - (rmS 128 n - 16 + s) = 15 - s := by omega
  unfold pdS
  rw [if_neg (by omega), if_pos (by omega), e]
  rcases (show s = 0 ∨ s = 1 ∨ s = 2 ∨ s = 3 ∨ s = 4 ∨ s = 5 ∨ s = 6 ∨ s = 7 by omega) with rfl | rfl | rfl | rfl | rfl | rfl | rfl | rfl <;> simp <;> omega
end Go.Proofs.Ytnldpofljeodiaa
/- What behind of the document's answer for layer 8 answers. -/
namespace Go.Proofs.Ytnldpofljeodiaa
open Go.RowKit
set_option linter.unusedVariables false

def lenV : Value → Nat
  | .slice _ n _ => n
  | _ => 0
set_option maxRecDepth 100000 in
set_option maxHeartbeats 3200000 in
theorem behind6_64 (k : Nat) (hk : Kind k) (hbk : blkN k = 64) (n : Nat) (hn : n < 18446744073709551616) (w : World) : Calls Try.prog 44 #[.int .i64 (k : Int), .int .u64 (n : Int)] w fun e w' => ∃ v, e = .returned v ∧ w'.ownsRow w.heap.size 5 1 v (rmS 64 n) (pdR 64 n (rmS 64 n)) ∧ Below w.heap.size w w' := by
  have HSZ : Hid (∀ w, Calls Try.prog 39 #[.int .i64 (k : Int)] w fun e w' => e = .returned (.tuple #[.int .i64 ((k / 8 : Nat) : Int), .int .i64 64, .int .i64 0]) ∧ w' = w) := fun w => by have h := rSize_any k hk w; rw [hbk] at h; exact h
  have hkk : k ≤ 512 := by rcases hk with rfl | rfl | rfl | rfl <;> omega
  obtain ⟨i0, hi, hz0, hz1, hz2⟩ := info_parts Try.info5
  have HRB := rm_bound 64 n (by omega)
  obtain ⟨R, hR⟩ : ∃ R : Nat, rmS 64 n = R := ⟨_, rfl⟩
  have HST : Hid (∀ m, 1 ≤ m → m ≤ R - 8 → ((n + (m + 8)) % 64 = 0 ↔ m = R - 8)) := fun m h1 h2 => by rw [← hR] at h2 ⊢; exact bh_stop 64 n m (by omega) h1 h2
  have HZR : Hid (∀ m, 1 ≤ m → m < R - 8 → pdS 64 n m = 0) := fun m h1 h2 => by rw [← hR] at h2; exact bh_zero 64 n m h1 h2
  have HLO : Hid (∀ s, s < 8 → (pdS 64 n (R - 8 + s)).toNat = n * 8 % 18446744073709551616 / 2 ^ (56 - 8 * s) % 256) := fun s hs => by rw [← hR]; exact bh_low 64 n s (by omega) hs
  rw [hR] at HRB ⊢
  obtain ⟨hR1, hR2, _⟩ := HRB
  have HNX := hidD (pdR_next 64 n)
  have HP1 : Hid (pdR 64 n 1 = [.int .u8 128]) := rfl
  clear hR
  generalize pdR 64 n = PD at *
  generalize pdS 64 n = PS at *
  have W1 : Hid ((w.alloc (.cells #[.int .u8 128] (5 : TypeId))).ownsRow w.heap.size 5 1 (.slice (some ⟨w.heap.size, 0, none⟩) 1 1) 1 (PD 1)) := by
    show World.ownsRow _ _ _ _ _ _ _
    rw [HP1.out]; exact full_row (Nat.le_refl _) rfl (by unfold maxLen; omega) (heap_alloc_last _ _)
  have B1 : Hid (Below w.heap.size w (w.alloc (.cells #[.int .u8 128] (5 : TypeId)))) := (Below.refl _ _).alloc (Nat.le_refl _) _
  clear HP1
  go_enter Try.func44, Try.ntmps44
  go_wp2_with (go_at_call 39; refine (HSZ.out _).mono ?_; rintro e wz ⟨rfl, hwz⟩; subst wz)
  go_loopw [9] (fun o wr => ∃ m : Nat, 1 ≤ m ∧ m ≤ R - 8 ∧ wr.ownsRow w.heap.size 5 1 o m (PD m) ∧ Below w.heap.size w wr) (fun o _ => 300 - lenV o)
  case atStart => exact ⟨1, by omega, by omega, W1.out, B1.out⟩
  case round =>
    clear W1 B1
    obtain ⟨m, h1, h2, hown, hbel⟩ := hrel
    obtain ⟨ad, cd, hde⟩ := row_shape hown
    subst hde
    have HOW := hidD hown
    have HBL := hidD hbel
    have hwz := hbel.size
    clear hown hbel
    have hst := HST.out m h1 h2
    obtain ⟨E, hE⟩ : ∃ E : Nat, (n + (m + 8)) % 64 = E := ⟨_, rfl⟩
    have hsum : IntKind.u64.wrap ((n : Int) + ((m : Int) + 8)) = (((n + (m + 8)) % 18446744073709551616 : Nat) : Int) := by rw [IntKind.wrap_u64]; omega
    have hrem : (((n + (m + 8)) % 18446744073709551616 : Nat) : Int) % 64 = (E : Int) := by omega
    rw [hE] at hst
    clear hE
    have hSl : (n + (m + 8)) % 18446744073709551616 < 18446744073709551616 := Nat.mod_lt _ (by omega)
    generalize (n + (m + 8)) % 18446744073709551616 = S at *
    by_cases hlt : m < R - 8
    · have hne : ((E : Int) != 0) = true := by simp; omega
      have HPN : Hid (PD (m + 1) = PD m ++ [.int .u8 0]) := by show _ = _; rw [HNX.out, HZR.out m h1 hlt]; rfl
      clear hst
      go_wp2_with (at_builtin; refine wpList_append_own _ rfl _ _ 22 rfl w.heap.size 5 i0 (.int .u8 0) 1 1 Try.underlying22 hi hz0 hz1 hz2 rfl (by decide) (.slice ad m cd) m (PD m) rfl (row_below HOW.out ((Below.refl _ _).alloc (Nat.le_refl _) _)) ⟨wr.heap.size, 0, none⟩ 1 1 [.int .u8 0] rfl rfl (new_cell1 wr _ _) (by simp [Value.oneCell']) (by unfold maxLen; omega) (by omega) (by simp; omega) ?_; intro v4 w4 hown4 hg4 hnil4; have HB4 := hidD (row_grown (row_below HOW.out ((Below.refl _ _).alloc (Nat.le_refl _) _)) (HBL.out.alloc hwz _) hg4 (by simp; omega)); obtain ⟨a4, c4, hv4⟩ := row_shape hown4; subst hv4; clear hg4 hnil4)
      go_roundw
      case rel =>
          first
          | exact ⟨m + 1, by omega, by omega, by rw [HPN.out]; exact hown4, HB4.out⟩
          | ((repeat apply Exists.intro); refine And.intro ?_ rfl; exact ⟨m + 1, by omega, by omega, by rw [HPN.out]; exact hown4, HB4.out⟩)
      case measure => simp [lenV]; omega
    · have hne : ((E : Int) != 0) = false := by simp; omega
      obtain rfl : m = R - 8 := by omega
      clear hst
      obtain ⟨wl11, hwl⟩ : ∃ wl : World, wl = wr := ⟨_, rfl⟩
      subst hwl
      go_wp2_with fail
      try clear hrem hsum
      go_loopw [9, 11] (fun o iv wr => ∃ s : Nat, s ≤ 8 ∧ iv = .int .i64 (56 - 8 * (s : Int)) ∧ wr.ownsRow w.heap.size 5 1 o (R - 8 + s) (PD (R - 8 + s)) ∧ Below w.heap.size w wr) (fun _ iv _ => (intOf iv + 8).toNat)
      case atStart => exact ⟨0, by omega, rfl, HOW.out, HBL.out⟩
      case round =>
        clear HOW HBL
        obtain ⟨s, hs, rfl, hown, hbel⟩ := hrel
        obtain ⟨ad, cd, hde⟩ := row_shape hown
        subst hde
        have HOW := hidD hown
        have HBL := hidD hbel
        have hwz := hbel.size
        clear hown hbel
        by_cases hlt : s < 8
        · have hv := HLO.out s hlt
          have HPN := hidD (HNX.out (R - 8 + s))
          rw [hv] at HPN
          clear hv
          have hii : (56 : Int) - 8 * (s : Int) = ((56 - 8 * s : Nat) : Int) := by omega
          have hil : 56 - 8 * s ≤ 56 := by omega
          have hdn : IntKind.u64.wrap ((n : Int) * 8) = ((n * 8 % 18446744073709551616 : Nat) : Int) := by rw [IntKind.wrap_u64]; omega
          have hN : n * 8 % 18446744073709551616 < 18446744073709551616 := by omega
          have hnx : ((56 - 8 * s : Nat) : Int) - 8 = 56 - 8 * ((s + 1 : Nat) : Int) := by omega
          rw [hii]
          have HNI := hidD hnx
          clear hii hnx
          generalize n * 8 % 18446744073709551616 = N at *
          generalize 56 - 8 * s = i at *
          have hdv : (N : Int) / 2 ^ i = ((N / 2 ^ i : Nat) : Int) := by simp
          have hdl : N / 2 ^ i < 18446744073709551616 := Nat.lt_of_le_of_lt (Nat.div_le_self _ _) hN
          generalize N / 2 ^ i = D at *
          have hby : (D : Int) % 256 = ((D % 256 : Nat) : Int) := by omega
          have hbl : D % 256 < 256 := Nat.mod_lt _ (by omega)
          generalize D % 256 = X at *
          obtain ⟨m, hm⟩ : ∃ m : Nat, R - 8 + s = m := ⟨_, rfl⟩
          have HM := hidD hm
          have hmR : m < R := by omega
          rw [hm] at HPN HOW ⊢
          clear hm
          go_wp2_with (at_builtin; refine wpList_append_own _ rfl _ _ 22 rfl w.heap.size 5 i0 (.int .u8 0) 1 1 Try.underlying22 hi hz0 hz1 hz2 rfl (by decide) (.slice ad m cd) m (PD m) rfl (row_below HOW.out ((Below.refl _ _).alloc (Nat.le_refl _) _)) ⟨wr.heap.size, 0, none⟩ 1 1 [.int .u8 (X : Int)] rfl rfl (new_cell1 wr _ _) (by simp [Value.oneCell']) (by unfold maxLen; omega) (by omega) (by simp; omega) ?_; intro v4 w4 hown4 hg4 hnil4; have HB4 := hidD (row_grown (row_below HOW.out ((Below.refl _ _).alloc (Nat.le_refl _) _)) (HBL.out.alloc hwz _) hg4 (by simp; omega)); obtain ⟨a4, c4, hv4⟩ := row_shape hown4; subst hv4; clear hg4 hnil4)
          go_roundw
          case rel =>
                first
                | exact ⟨s + 1, by omega, by rw [HNI.out], by rw [show R - 8 + (s + 1) = m + 1 by (have := HM.out; omega), HPN.out]; exact hown4, HB4.out⟩
                | ((repeat apply Exists.intro); refine And.intro ?_ rfl; exact ⟨s + 1, by omega, by rw [HNI.out], by rw [show R - 8 + (s + 1) = m + 1 by (have := HM.out; omega), HPN.out]; exact hown4, HB4.out⟩)
          case measure => simp [intOf]; omega
        · obtain rfl : s = 8 := by omega
          have hii : (56 : Int) - 8 * ((8 : Nat) : Int) = -8 := by omega
          rw [hii]
          have e8 : R - 8 + 8 = R := by omega
          rw [e8] at HOW
          rw [e8]
          go_wp2_with fail
          refine bodyPost_ret (v := .slice ad R cd) (by simp [results, Try.results44, go_sem]) rfl ⟨_, rfl, HOW.out, HBL.out⟩
set_option maxRecDepth 100000 in
set_option maxHeartbeats 3200000 in
theorem behind6_128 (k : Nat) (hk : Kind k) (hbk : blkN k = 128) (n : Nat) (hn : n < 18446744073709551616) (w : World) : Calls Try.prog 44 #[.int .i64 (k : Int), .int .u64 (n : Int)] w fun e w' => ∃ v, e = .returned v ∧ w'.ownsRow w.heap.size 5 1 v (rmS 128 n) (pdR 128 n (rmS 128 n)) ∧ Below w.heap.size w w' := by
  have HSZ : Hid (∀ w, Calls Try.prog 39 #[.int .i64 (k : Int)] w fun e w' => e = .returned (.tuple #[.int .i64 ((k / 8 : Nat) : Int), .int .i64 128, .int .i64 0]) ∧ w' = w) := fun w => by have h := rSize_any k hk w; rw [hbk] at h; exact h
  have hkk : k ≤ 512 := by rcases hk with rfl | rfl | rfl | rfl <;> omega
  obtain ⟨i0, hi, hz0, hz1, hz2⟩ := info_parts Try.info5
  have HRB := rm_bound 128 n (by omega)
  obtain ⟨R, hR⟩ : ∃ R : Nat, rmS 128 n = R := ⟨_, rfl⟩
  have HST : Hid (∀ m, 1 ≤ m → m ≤ R - 16 → ((n + (m + 16)) % 128 = 0 ↔ m = R - 16)) := fun m h1 h2 => by rw [← hR] at h2 ⊢; exact bh_stop 128 n m (by omega) h1 h2
  have HZR : Hid (∀ m, 1 ≤ m → m < R - 16 → pdS 128 n m = 0) := fun m h1 h2 => by rw [← hR] at h2; exact bh_zero 128 n m h1 h2
  have HLO : Hid (∀ s, s < 8 → (pdS 128 n (R - 8 + s)).toNat = n * 8 % 18446744073709551616 / 2 ^ (56 - 8 * s) % 256) := fun s hs => by rw [← hR]; exact bh_low 128 n s (by omega) hs
  have HHI : Hid (∀ s, s < 8 → (pdS 128 n (R - 16 + s)).toNat = n / 2 ^ 61 / 2 ^ (56 - 8 * s) % 256) := fun s hs => by rw [← hR]; exact bh_high n s hs
  rw [hR] at HRB ⊢
  obtain ⟨hR1, hR2, _⟩ := HRB
  have HNX := hidD (pdR_next 128 n)
  have HP1 : Hid (pdR 128 n 1 = [.int .u8 128]) := rfl
  clear hR
  generalize pdR 128 n = PD at *
  generalize pdS 128 n = PS at *
  have W1 : Hid ((w.alloc (.cells #[.int .u8 128] (5 : TypeId))).ownsRow w.heap.size 5 1 (.slice (some ⟨w.heap.size, 0, none⟩) 1 1) 1 (PD 1)) := by
    show World.ownsRow _ _ _ _ _ _ _
    rw [HP1.out]; exact full_row (Nat.le_refl _) rfl (by unfold maxLen; omega) (heap_alloc_last _ _)
  have B1 : Hid (Below w.heap.size w (w.alloc (.cells #[.int .u8 128] (5 : TypeId)))) := (Below.refl _ _).alloc (Nat.le_refl _) _
  clear HP1
  go_enter Try.func44, Try.ntmps44
  go_wp2_with (go_at_call 39; refine (HSZ.out _).mono ?_; rintro e wz ⟨rfl, hwz⟩; subst wz)
  go_loopw [9] (fun o wr => ∃ m : Nat, 1 ≤ m ∧ m ≤ R - 16 ∧ wr.ownsRow w.heap.size 5 1 o m (PD m) ∧ Below w.heap.size w wr) (fun o _ => 300 - lenV o)
  case atStart => exact ⟨1, by omega, by omega, W1.out, B1.out⟩
  case round =>
    clear W1 B1
    obtain ⟨m, h1, h2, hown, hbel⟩ := hrel
    obtain ⟨ad, cd, hde⟩ := row_shape hown
    subst hde
    have HOW := hidD hown
    have HBL := hidD hbel
    have hwz := hbel.size
    clear hown hbel
    have hst := HST.out m h1 h2
    obtain ⟨E, hE⟩ : ∃ E : Nat, (n + (m + 16)) % 128 = E := ⟨_, rfl⟩
    have hsum : IntKind.u64.wrap ((n : Int) + ((m : Int) + 16)) = (((n + (m + 16)) % 18446744073709551616 : Nat) : Int) := by rw [IntKind.wrap_u64]; omega
    have hrem : (((n + (m + 16)) % 18446744073709551616 : Nat) : Int) % 128 = (E : Int) := by omega
    rw [hE] at hst
    clear hE
    have hSl : (n + (m + 16)) % 18446744073709551616 < 18446744073709551616 := Nat.mod_lt _ (by omega)
    generalize (n + (m + 16)) % 18446744073709551616 = S at *
    by_cases hlt : m < R - 16
    · have hne : ((E : Int) != 0) = true := by simp; omega
      have HPN : Hid (PD (m + 1) = PD m ++ [.int .u8 0]) := by show _ = _; rw [HNX.out, HZR.out m h1 hlt]; rfl
      clear hst
      go_wp2_with (at_builtin; refine wpList_append_own _ rfl _ _ 22 rfl w.heap.size 5 i0 (.int .u8 0) 1 1 Try.underlying22 hi hz0 hz1 hz2 rfl (by decide) (.slice ad m cd) m (PD m) rfl (row_below HOW.out ((Below.refl _ _).alloc (Nat.le_refl _) _)) ⟨wr.heap.size, 0, none⟩ 1 1 [.int .u8 0] rfl rfl (new_cell1 wr _ _) (by simp [Value.oneCell']) (by unfold maxLen; omega) (by omega) (by simp; omega) ?_; intro v4 w4 hown4 hg4 hnil4; have HB4 := hidD (row_grown (row_below HOW.out ((Below.refl _ _).alloc (Nat.le_refl _) _)) (HBL.out.alloc hwz _) hg4 (by simp; omega)); obtain ⟨a4, c4, hv4⟩ := row_shape hown4; subst hv4; clear hg4 hnil4)
      go_roundw
      case rel =>
          first
          | exact ⟨m + 1, by omega, by omega, by rw [HPN.out]; exact hown4, HB4.out⟩
          | ((repeat apply Exists.intro); refine And.intro ?_ rfl; exact ⟨m + 1, by omega, by omega, by rw [HPN.out]; exact hown4, HB4.out⟩)
      case measure => simp [lenV]; omega
    · have hne : ((E : Int) != 0) = false := by simp; omega
      obtain rfl : m = R - 16 := by omega
      clear hst
      obtain ⟨wl10, hwl⟩ : ∃ wl : World, wl = wr := ⟨_, rfl⟩
      subst hwl
      go_wp2_with fail
      try clear hrem hsum
      go_loopw [9, 10] (fun o iv wr => ∃ s : Nat, s ≤ 8 ∧ iv = .int .i64 (56 - 8 * (s : Int)) ∧ wr.ownsRow w.heap.size 5 1 o (R - 16 + s) (PD (R - 16 + s)) ∧ Below w.heap.size w wr) (fun _ iv _ => (intOf iv + 8).toNat)
      case atStart => exact ⟨0, by omega, rfl, HOW.out, HBL.out⟩
      case round =>
        clear HOW HBL
        obtain ⟨s, hs, rfl, hown, hbel⟩ := hrel
        obtain ⟨ad, cd, hde⟩ := row_shape hown
        subst hde
        have HOW := hidD hown
        have HBL := hidD hbel
        have hwz := hbel.size
        clear hown hbel
        by_cases hlt : s < 8
        · have hv := HHI.out s hlt
          have HPN := hidD (HNX.out (R - 16 + s))
          rw [hv] at HPN
          clear hv
          have hii : (56 : Int) - 8 * (s : Int) = ((56 - 8 * s : Nat) : Int) := by omega
          have hil : 56 - 8 * s ≤ 56 := by omega
          have hdn : (n : Int) / 2305843009213693952 = ((n / 2 ^ 61 : Nat) : Int) := by omega
          have hdn2 : (n : Int) / 2 ^ 61 = ((n / 2 ^ 61 : Nat) : Int) := by omega
          have hN : n / 2 ^ 61 < 18446744073709551616 := by omega
          have hnx : ((56 - 8 * s : Nat) : Int) - 8 = 56 - 8 * ((s + 1 : Nat) : Int) := by omega
          rw [hii]
          have HNI := hidD hnx
          clear hii hnx
          generalize n / 2 ^ 61 = N at *
          generalize 56 - 8 * s = i at *
          have hdv : (N : Int) / 2 ^ i = ((N / 2 ^ i : Nat) : Int) := by simp
          have hdl : N / 2 ^ i < 18446744073709551616 := Nat.lt_of_le_of_lt (Nat.div_le_self _ _) hN
          generalize N / 2 ^ i = D at *
          have hby : (D : Int) % 256 = ((D % 256 : Nat) : Int) := by omega
          have hbl : D % 256 < 256 := Nat.mod_lt _ (by omega)
          generalize D % 256 = X at *
          obtain ⟨m, hm⟩ : ∃ m : Nat, R - 16 + s = m := ⟨_, rfl⟩
          have HM := hidD hm
          have hmR : m < R := by omega
          rw [hm] at HPN HOW ⊢
          clear hm
          go_wp2_with (at_builtin; refine wpList_append_own _ rfl _ _ 22 rfl w.heap.size 5 i0 (.int .u8 0) 1 1 Try.underlying22 hi hz0 hz1 hz2 rfl (by decide) (.slice ad m cd) m (PD m) rfl (row_below HOW.out ((Below.refl _ _).alloc (Nat.le_refl _) _)) ⟨wr.heap.size, 0, none⟩ 1 1 [.int .u8 (X : Int)] rfl rfl (new_cell1 wr _ _) (by simp [Value.oneCell']) (by unfold maxLen; omega) (by omega) (by simp; omega) ?_; intro v4 w4 hown4 hg4 hnil4; have HB4 := hidD (row_grown (row_below HOW.out ((Below.refl _ _).alloc (Nat.le_refl _) _)) (HBL.out.alloc hwz _) hg4 (by simp; omega)); obtain ⟨a4, c4, hv4⟩ := row_shape hown4; subst hv4; clear hg4 hnil4)
          go_roundw
          case rel =>
                first
                | exact ⟨s + 1, by omega, by rw [HNI.out], by rw [show R - 16 + (s + 1) = m + 1 by (have := HM.out; omega), HPN.out]; exact hown4, HB4.out⟩
                | ((repeat apply Exists.intro); refine And.intro ?_ rfl; exact ⟨s + 1, by omega, by rw [HNI.out], by rw [show R - 16 + (s + 1) = m + 1 by (have := HM.out; omega), HPN.out]; exact hown4, HB4.out⟩)
          case measure => simp [intOf]; omega
        · obtain rfl : s = 8 := by omega
          have hii : (56 : Int) - 8 * ((8 : Nat) : Int) = -8 := by omega
          rw [hii]
          have e8 : R - 16 + 8 = R - 8 := by omega
          rw [e8] at HOW
          rw [e8]
          obtain ⟨wl11, hwl⟩ : ∃ wl : World, wl = wr := ⟨_, rfl⟩
          subst hwl
          go_wp2_with fail
          try clear hrem hsum
          go_loopw [9, 11] (fun o iv wr => ∃ s : Nat, s ≤ 8 ∧ iv = .int .i64 (56 - 8 * (s : Int)) ∧ wr.ownsRow w.heap.size 5 1 o (R - 8 + s) (PD (R - 8 + s)) ∧ Below w.heap.size w wr) (fun _ iv _ => (intOf iv + 8).toNat)
          case atStart => exact ⟨0, by omega, rfl, HOW.out, HBL.out⟩
          case round =>
            clear HOW HBL
            obtain ⟨s, hs, rfl, hown, hbel⟩ := hrel
            obtain ⟨ad, cd, hde⟩ := row_shape hown
            subst hde
            have HOW := hidD hown
            have HBL := hidD hbel
            have hwz := hbel.size
            clear hown hbel
            by_cases hlt : s < 8
            · have hv := HLO.out s hlt
              have HPN := hidD (HNX.out (R - 8 + s))
              rw [hv] at HPN
              clear hv
              have hii : (56 : Int) - 8 * (s : Int) = ((56 - 8 * s : Nat) : Int) := by omega
              have hil : 56 - 8 * s ≤ 56 := by omega
              have hdn : IntKind.u64.wrap ((n : Int) * 8) = ((n * 8 % 18446744073709551616 : Nat) : Int) := by rw [IntKind.wrap_u64]; omega
              have hN : n * 8 % 18446744073709551616 < 18446744073709551616 := by omega
              have hnx : ((56 - 8 * s : Nat) : Int) - 8 = 56 - 8 * ((s + 1 : Nat) : Int) := by omega
              rw [hii]
              have HNI := hidD hnx
              clear hii hnx
              generalize n * 8 % 18446744073709551616 = N at *
              generalize 56 - 8 * s = i at *
              have hdv : (N : Int) / 2 ^ i = ((N / 2 ^ i : Nat) : Int) := by simp
              have hdl : N / 2 ^ i < 18446744073709551616 := Nat.lt_of_le_of_lt (Nat.div_le_self _ _) hN
              generalize N / 2 ^ i = D at *
              have hby : (D : Int) % 256 = ((D % 256 : Nat) : Int) := by omega
              have hbl : D % 256 < 256 := Nat.mod_lt _ (by omega)
              generalize D % 256 = X at *
              obtain ⟨m, hm⟩ : ∃ m : Nat, R - 8 + s = m := ⟨_, rfl⟩
              have HM := hidD hm
              have hmR : m < R := by omega
              rw [hm] at HPN HOW ⊢
              clear hm
              go_wp2_with (at_builtin; refine wpList_append_own _ rfl _ _ 22 rfl w.heap.size 5 i0 (.int .u8 0) 1 1 Try.underlying22 hi hz0 hz1 hz2 rfl (by decide) (.slice ad m cd) m (PD m) rfl (row_below HOW.out ((Below.refl _ _).alloc (Nat.le_refl _) _)) ⟨wr.heap.size, 0, none⟩ 1 1 [.int .u8 (X : Int)] rfl rfl (new_cell1 wr _ _) (by simp [Value.oneCell']) (by unfold maxLen; omega) (by omega) (by simp; omega) ?_; intro v4 w4 hown4 hg4 hnil4; have HB4 := hidD (row_grown (row_below HOW.out ((Below.refl _ _).alloc (Nat.le_refl _) _)) (HBL.out.alloc hwz _) hg4 (by simp; omega)); obtain ⟨a4, c4, hv4⟩ := row_shape hown4; subst hv4; clear hg4 hnil4)
              go_roundw
              case rel =>
                    first
                    | exact ⟨s + 1, by omega, by rw [HNI.out], by rw [show R - 8 + (s + 1) = m + 1 by (have := HM.out; omega), HPN.out]; exact hown4, HB4.out⟩
                    | ((repeat apply Exists.intro); refine And.intro ?_ rfl; exact ⟨s + 1, by omega, by rw [HNI.out], by rw [show R - 8 + (s + 1) = m + 1 by (have := HM.out; omega), HPN.out]; exact hown4, HB4.out⟩)
              case measure => simp [intOf]; omega
            · obtain rfl : s = 8 := by omega
              have hii : (56 : Int) - 8 * ((8 : Nat) : Int) = -8 := by omega
              rw [hii]
              have e8 : R - 8 + 8 = R := by omega
              rw [e8] at HOW
              rw [e8]
              go_wp2_with fail
              refine bodyPost_ret (v := .slice ad R cd) (by simp [results, Try.results44, go_sem]) rfl ⟨_, rfl, HOW.out, HBL.out⟩
end Go.Proofs.Ytnldpofljeodiaa
/- What Padding of the document's answer for layer 8 answers. -/
namespace Go.Proofs.Ytnldpofljeodiaa
open Go.RowKit
set_option linter.unusedVariables false

theorem rBehind_any (k : Nat) (hk : Kind k) (n : Nat) (hn : n < 18446744073709551616) (w : World) : Calls Try.prog 44 #[.int .i64 (k : Int), .int .u64 (n : Int)] w fun e w' => ∃ v, e = .returned v ∧ w'.ownsRow w.heap.size 5 1 v (padL k n).length ((padL k n).map encB) ∧ Below w.heap.size w w' := by
  have key : ∀ bk, blkN k = bk → pdR bk n (rmS bk n) = (padL k n).map encB ∧ rmS bk n = (padL k n).length := fun bk h => by
    subst h
    refine ⟨?_, (padL_len k n).symm⟩
    unfold pdR padL; rw [List.map_map]; rfl
  by_cases h : 256 < k
  · have hb : blkN k = 128 := if_pos h
    have e := key 128 hb
    have := behind6_128 k hk hb n hn w
    rw [e.1, e.2] at this
    exact this
  · have hb : blkN k = 64 := if_neg h
    have e := key 64 hb
    have := behind6_64 k hk hb n hn w
    rw [e.1, e.2] at this
    exact this
set_option maxRecDepth 100000 in
theorem rPad_no (x : Int) (h : x ≠ 224 ∧ x ≠ 256 ∧ x ≠ 384 ∧ x ≠ 512) (n : Nat) (w : World) : Calls Try.prog 23 #[.int .i64 x, .int .u64 (n : Int)] w fun e w' => e = .returned (.tuple #[.slice none 0 0, .int .i64 1]) ∧ w' = w := by
  have HS := hidD (rSize_no x h)
  clear h
  go_enter Try.func23, Try.ntmps23
  go_wp2_with (go_at_call 39; refine (HS.out _).mono ?_; rintro e wz ⟨rfl, hwz⟩; subst wz)
  refine bodyPost_ret (v := .tuple #[.slice none 0 0, .int .i64 1]) (by simp [results, Try.results23, go_sem]) rfl ⟨rfl, rfl⟩
set_option maxRecDepth 100000 in
theorem rPad_big (k : Nat) (hk : Kind k) (n : Nat) (hn : n < 18446744073709551616) (hb : 2305843009213693952 ≤ n) (w : World) : Calls Try.prog 23 #[.int .i64 (k : Int), .int .u64 (n : Int)] w fun e w' => e = .returned (.tuple #[.slice none 0 0, .int .i64 3]) ∧ w' = w := by
  have HS := hidD (rSize_any k hk)
  have hbi : (2305843009213693952 : Int) ≤ (n : Int) := by omega
  clear hk
  generalize k / 8 = k8 at *
  generalize blkN k = bk at *
  go_enter Try.func23, Try.ntmps23
  go_wp2_with (go_at_call 39; refine (HS.out _).mono ?_; rintro e wz ⟨rfl, hwz⟩; subst wz)
  refine bodyPost_ret (v := .tuple #[.slice none 0 0, .int .i64 3]) (by simp [results, Try.results23, go_sem]) rfl ⟨rfl, rfl⟩
set_option maxRecDepth 100000 in
theorem rPad_any (k : Nat) (hk : Kind k) (n : Nat) (hn : n < 2305843009213693952) (w : World) : Calls Try.prog 23 #[.int .i64 (k : Int), .int .u64 (n : Int)] w fun e w' => ∃ v, e = .returned (.tuple #[v, .int .i64 0]) ∧ w'.ownsRow w.heap.size 5 1 v (padL k n).length ((padL k n).map encB) ∧ Below w.heap.size w w' := by
  have HS := hidD (rSize_any k hk)
  have HB := hidD (rBehind_any k hk n (by omega))
  have hbi : decide ((2305843009213693952 : Int) ≤ (n : Int)) = false := by rw [decide_eq_false]; omega
  clear hk hn
  generalize padL k n = PL at *
  generalize k / 8 = k8 at *
  generalize blkN k = bk at *
  go_enter Try.func23, Try.ntmps23
  go_wp2_with (first
    | (go_at_call 39; refine (HS.out _).mono ?_; rintro e wz ⟨rfl, hwz⟩; subst wz; clear HS)
    | (go_at_call 44; refine (HB.out _).mono ?_; rintro e w2 ⟨v, rfl, hown, hb⟩))
  refine bodyPost_ret (v := .tuple #[v, .int .i64 0]) (by simp [results, Try.results23, go_sem]) rfl ⟨v, rfl, hown, hb⟩
end Go.Proofs.Ytnldpofljeodiaa
/- Plain: the document's round against the program's. -/
namespace Go.Proofs.Ytnldpofljeodiaa
open Go.RowKit
set_option linter.unusedVariables false

theorem rd_w (k a b c d : Nat) : (((a + b) % 18446744073709551616 + c) % 18446744073709551616 + d) % 18446744073709551616 % mdK k = (((a + b) % mdK k + c) % mdK k + d) % mdK k := by
  unfold mdK; split <;> omega
theorem rd_two (k a b : Nat) : (a + b) % 18446744073709551616 % mdK k = (a + b) % mdK k := by
  unfold mdK; split <;> omega
theorem rd_five (k a b c d e : Nat) : ((((a + b) % 18446744073709551616 + c) % 18446744073709551616 + d) % 18446744073709551616 + e) % 18446744073709551616 % mdK k = (a + b + c + d + e) % mdK k := by
  unfold mdK; split <;> omega
theorem rd_one (k t h ch a x : Nat) : ((((h + t) % 18446744073709551616 + ch) % 18446744073709551616 + a) % 18446744073709551616 + x) % 18446744073709551616 % mdK k = r1S (mdK k) t h ch ((a % mdK k + x) % mdK k) := by
  unfold r1S mdK; split <;> omega
theorem rd_ch (k e f g : Nat) (hg : g < mdK k) : (e &&& f) ^^^ ((18446744073709551615 ^^^ e) &&& g) = chS (mdK k) e f g := by
  unfold chS
  congr 1
  rw [mdK_two] at *
  apply Nat.eq_of_testBit_eq
  intro i
  rw [Nat.testBit_and, Nat.testBit_and, Nat.testBit_xor, Nat.testBit_xor, show (18446744073709551615 : Nat) = 2 ^ 64 - 1 from rfl, Nat.testBit_two_pow_sub_one, Nat.testBit_two_pow_sub_one]
  by_cases hi : i < wdt k
  · have : wdt k ≤ 64 := by unfold wdt; split <;> omega
    simp only [hi, show i < 64 by omega, decide_true]
  · have : g.testBit i = false := Nat.testBit_lt_two_pow (Nat.lt_of_lt_of_le hg (Nat.pow_le_pow_right (by omega) (by omega)))
    rw [this, Bool.and_false, Bool.and_false]
end Go.Proofs.Ytnldpofljeodiaa
