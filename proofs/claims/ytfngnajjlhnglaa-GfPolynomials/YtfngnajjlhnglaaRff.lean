/- What the document's New and its field's calls answer. -/
import Derived.Test.YtfngnajjlhnglaaNil
import Derived.Laws.Build
namespace Go.Proofs.Ytfngnajjlhnglaa
open Go.RowKit
set_option linter.unusedVariables false

/-- The document's field lies in a block. -/
structure RfAt (w : World) (b : Nat) (P g : UInt8) : Prop where
  lt : b < w.heap.size
  c0 : w.cell? ⟨b, 0, none⟩ = some (.int .i64 (256 + (P.toNat : Int)))
  c1 : w.cell? ⟨b, 1, none⟩ = some (.int .u8 (g.toNat : Int))
theorem RfAt.below {w w' : World} {b n : Nat} {P g : UInt8} (h : RfAt w b P g) (hb : Below n w w') (hn : b < n) : RfAt w' b P g :=
  ⟨Nat.lt_of_lt_of_le h.lt hb.size, by rw [hb.cell hn]; exact h.c0, by rw [hb.cell hn]; exact h.c1⟩
theorem RfAt.next {w w' : World} {b : Nat} {P g : UInt8} (h : RfAt w b P g) (hb : Below w.heap.size w w') : RfAt w' b P g := h.below hb h.lt
theorem RfAt.new (w : World) (P g : UInt8) (Q : Int) (hQ : Q = 256 + (P.toNat : Int)) (t : TypeId) : RfAt (w.alloc (.cells #[.int .i64 Q, .int .u8 (g.toNat : Int)] t)) w.heap.size P g := by
  subst hQ
  refine ⟨by simp, ?_, ?_⟩ <;> (rw [World.cell?_alloc_new]; rfl)

set_option maxRecDepth 100000 in
set_option maxHeartbeats 400000 in
theorem refMul_any {P g : UInt8} {b : Nat} (x y : UInt8) (w : World) (hf : RfAt w b P g) : Calls Try.prog 27 #[.pointer (some ⟨b, 0, none⟩), .int .u8 (x.toNat : Int), .int .u8 (y.toNat : Int)] w fun e w' => e = .returned (.int .u8 ((bm P x y).toNat : Int)) ∧ w' = w := by
  have HC := hidD (fun w => refCarry_in P x y _ rfl w)
  have hc := hf.c0
  generalize ((bm P x y).toNat : Int) = R at *
  generalize 256 + (P.toNat : Int) = Q at *
  clear hf
  go_enter Try.func27, Try.ntmps27
  go_wp2_with (go_at_call 10; refine (HC.out _).mono ?_; rintro e w2 ⟨rfl, hb2⟩)
  go_ret
  exact ⟨rfl, rfl⟩
set_option maxRecDepth 100000 in
set_option maxHeartbeats 400000 in
theorem power_any {P g : UInt8} {b : Nat} (a : UInt8) (n : Nat) (hn : n < 9223372036854775807) (w : World) (hf : RfAt w b P g) : Calls Try.prog 52 #[.pointer (some ⟨b, 0, none⟩), .int .u8 (a.toNat : Int), .int .i64 (n : Int)] w fun e w' => e = .returned (.int .u8 ((pw P a n).toNat : Int)) ∧ w' = w := by
  have HC : Hid (∀ k, Calls Try.prog 27 #[.pointer (some ⟨b, 0, none⟩), .int .u8 ((pw P a k).toNat : Int), .int .u8 (a.toNat : Int)] w fun e w' => e = .returned (.int .u8 ((pw P a (k + 1)).toNat : Int)) ∧ w' = w) := fun k => refMul_any (pw P a k) a w hf
  generalize hR : ((pw P a n).toNat : Int) = R
  have HR := hidD hR
  clear hf hR
  go_enter Try.func52, Try.ntmps52
  go_wp2_with fail
  go_loopw [7, 8] (fun x i wr => ∃ k : Nat, k ≤ n ∧ i = .int .i64 k ∧ x = .int .u8 ((pw P a k).toNat : Int) ∧ wr = w) (fun _ i _ => n - (intOf i).toNat)
  case atStart => exact ⟨0, Nat.zero_le _, rfl, rfl, rfl⟩
  case round =>
    obtain ⟨k, hk, rfl, rfl, rfl⟩ := hrel
    by_cases hlt : k < n
    · have hlti : (k : Int) < n := by omega
      have HCk := hidD (HC.out k)
      generalize hx : ((pw P a (k + 1)).toNat : Int) = X at *
      have HX := hidD hx
      clear hx
      generalize ((pw P a k).toNat : Int) = Y at *
      go_wp2_with (go_at_call 27; refine HCk.out.mono ?_; rintro e w3 ⟨rfl, hb3⟩)
      go_roundw
      case rel => exact ⟨k + 1, by omega, by go_num, by rw [HX.out], trivial⟩
      case measure => simp [intOf]; omega
    · obtain rfl : k = n := by omega
      rw [HR.out]
      go_wp2_with fail
      go_ret
      exact ⟨rfl, rfl⟩

theorem tmod2 (n : Int) : (n.tmod 255 + 255).tmod 255 = (((n % 255).toNat : Nat) : Int) := by
  have h1 := tmod_lo n
  have h2 := tmod_hi n
  have h3 := Int.emod_nonneg n (show (255 : Int) ≠ 0 by omega)
  have h4 := Int.emod_lt_of_pos n (show (0 : Int) < 255 by omega)
  rw [Int.tmod_eq_emod_of_nonneg (by omega)]
  by_cases hn : n.tmod 255 < 0
  · have := tmod_neg hn; omega
  · have := tmod_nonneg hn; omega
theorem emod_small (n : Int) : (n % 255).toNat < 255 := by
  have h4 := Int.emod_lt_of_pos n (show (0 : Int) < 255 by omega)
  omega
set_option maxRecDepth 100000 in
set_option maxHeartbeats 400000 in
theorem refInv_some {P g : UInt8} {b : Nat} (a : UInt8) (ha : a ≠ 0) (w : World) (hf : RfAt w b P g) : Calls Try.prog 21 #[.pointer (some ⟨b, 0, none⟩), .int .u8 (a.toNat : Int)] w fun e w' => e = .returned (.tuple #[.int .u8 ((inv P a).toNat : Int), .int .i64 0]) ∧ w' = w := by
  have HP : Hid (Calls Try.prog 52 #[.pointer (some ⟨b, 0, none⟩), .int .u8 (a.toNat : Int), .int .i64 254] w fun e w' => e = .returned (.int .u8 ((inv P a).toNat : Int)) ∧ w' = w) := power_any a 254 (by omega) w hf
  have h0 := u8_ne ha
  have hb := u8_bne ha
  generalize ((inv P a).toNat : Int) = R at *
  clear hf ha
  go_enter Try.func21, Try.ntmps21
  go_wp2_with (go_at_call 52; refine HP.out.mono ?_; rintro e w2 ⟨rfl, hb2⟩)
  refine bodyPost_ret (v := .tuple #[.int .u8 R, .int .i64 0]) (by simp [results, Try.results21, go_sem]) rfl ?_
  exact ⟨rfl, by first | rfl | exact hb2⟩
set_option maxRecDepth 100000 in
set_option maxHeartbeats 400000 in
theorem refInv_zero {b : Nat} (w : World) : Calls Try.prog 21 #[.pointer (some ⟨b, 0, none⟩), .int .u8 0] w fun e w' => e = .returned (.tuple #[.int .u8 0, .int .i64 51]) ∧ w' = w := by
  go_enter Try.func21, Try.ntmps21
  go_wp2_with fail
  refine bodyPost_ret (v := .tuple #[.int .u8 0, .int .i64 51]) (by simp [results, Try.results21, go_sem]) rfl ?_
  exact ⟨rfl, rfl⟩
set_option maxRecDepth 100000 in
set_option maxHeartbeats 400000 in
theorem refDiv_some {P g : UInt8} {b : Nat} (x y : UInt8) (hy : y ≠ 0) (w : World) (hf : RfAt w b P g) : Calls Try.prog 19 #[.pointer (some ⟨b, 0, none⟩), .int .u8 (x.toNat : Int), .int .u8 (y.toNat : Int)] w fun e w' => e = .returned (.tuple #[.int .u8 ((bm P x (inv P y)).toNat : Int), .int .i64 0]) ∧ w' = w := by
  have HI := hidD (refInv_some y hy w hf)
  have HM := hidD (refMul_any x (inv P y) w hf)
  generalize ((bm P x (inv P y)).toNat : Int) = R at *
  generalize ((inv P y).toNat : Int) = I at *
  clear hf hy
  go_enter Try.func19, Try.ntmps19
  go_wp2_with (first | (go_at_call 21; refine HI.out.mono ?_; rintro e w2 ⟨rfl, hb2⟩) | (go_at_call 27; refine HM.out.mono ?_; rintro e w2 ⟨rfl, hb2⟩))
  refine bodyPost_ret (v := .tuple #[.int .u8 R, .int .i64 0]) (by simp [results, Try.results19, go_sem]) rfl ?_
  exact ⟨rfl, by first | rfl | exact hb2⟩
set_option maxRecDepth 100000 in
set_option maxHeartbeats 400000 in
theorem refDiv_zero {b : Nat} (x : UInt8) (w : World) : Calls Try.prog 19 #[.pointer (some ⟨b, 0, none⟩), .int .u8 (x.toNat : Int), .int .u8 0] w fun e w' => e = .returned (.tuple #[.int .u8 0, .int .i64 51]) ∧ w' = w := by
  have HI := hidD (refInv_zero (b := b) w)
  go_enter Try.func19, Try.ntmps19
  go_wp2_with (go_at_call 21; refine HI.out.mono ?_; rintro e w2 ⟨rfl, hb2⟩)
  refine bodyPost_ret (v := .tuple #[.int .u8 0, .int .i64 51]) (by simp [results, Try.results19, go_sem]) rfl ?_
  exact ⟨rfl, by first | rfl | exact hb2⟩
set_option maxRecDepth 100000 in
set_option maxHeartbeats 400000 in
theorem refExp_any {P g : UInt8} {b : Nat} (n : Int) (w : World) (hf : RfAt w b P g) : Calls Try.prog 29 #[.pointer (some ⟨b, 0, none⟩), .int .i64 n] w fun e w' => e = .returned (.int .u8 ((pwI P g n).toNat : Int)) ∧ w' = w := by
  have hs := emod_small n
  have HP : Hid (Calls Try.prog 52 #[.pointer (some ⟨b, 0, none⟩), .int .u8 (g.toNat : Int), .int .i64 (((n % 255).toNat : Nat) : Int)] w fun e w' => e = .returned (.int .u8 ((pwI P g n).toNat : Int)) ∧ w' = w) := power_any g (n % 255).toNat (by omega) w hf
  have hc := hf.c1
  have h1 := tmod_lo n
  have h2 := tmod_hi n
  have hw1 : IntKind.i64.wrap (n.tmod 255 + 255) = n.tmod 255 + 255 := by rw [IntKind.wrap_i64]; omega
  have hw2 : wrap64 (n.tmod 255 + 255) = n.tmod 255 + 255 := by unfold wrap64; omega
  have ht := tmod2 n
  generalize ((pwI P g n).toNat : Int) = R at *
  generalize (((n % 255).toNat : Nat) : Int) = M at *
  clear hf hs
  go_enter Try.func29, Try.ntmps29
  go_wp2_with (go_at_call 52; refine HP.out.mono ?_; rintro e w2 ⟨rfl, hb2⟩)
  go_ret
  exact ⟨rfl, by first | rfl | exact hb2⟩
set_option maxRecDepth 100000 in
set_option maxHeartbeats 400000 in
theorem refPow_one {b : Nat} (a : UInt8) (w : World) : Calls Try.prog 23 #[.pointer (some ⟨b, 0, none⟩), .int .u8 (a.toNat : Int), .int .i64 0] w fun e w' => e = .returned (.tuple #[.int .u8 1, .int .i64 0]) ∧ w' = w := by
  go_enter Try.func23, Try.ntmps23
  go_wp2_with fail
  refine bodyPost_ret (v := .tuple #[.int .u8 1, .int .i64 0]) (by simp [results, Try.results23, go_sem]) rfl ?_
  exact ⟨rfl, rfl⟩
set_option maxRecDepth 100000 in
set_option maxHeartbeats 400000 in
theorem refPow_zero {b : Nat} (n : Int) (hn : n ≠ 0) (w : World) : Calls Try.prog 23 #[.pointer (some ⟨b, 0, none⟩), .int .u8 0, .int .i64 n] w fun e w' => e = .returned (.tuple #[.int .u8 0, .int .i64 (if n < 0 then 51 else 0)]) ∧ w' = w := by
  have hnb : (n == 0) = false := by simpa using hn
  by_cases h : n < 0
  · rw [if_pos h]
    go_enter Try.func23, Try.ntmps23
    go_wp2_with fail
    refine bodyPost_ret (v := .tuple #[.int .u8 0, .int .i64 51]) (by simp [results, Try.results23, go_sem]) rfl ?_
    exact ⟨rfl, rfl⟩
  · rw [if_neg h]
    go_enter Try.func23, Try.ntmps23
    go_wp2_with fail
    refine bodyPost_ret (v := .tuple #[.int .u8 0, .int .i64 0]) (by simp [results, Try.results23, go_sem]) rfl ?_
    exact ⟨rfl, rfl⟩
set_option maxRecDepth 100000 in
set_option maxHeartbeats 400000 in
theorem refPow_any {P g : UInt8} {b : Nat} (a : UInt8) (ha : a ≠ 0) (n : Int) (hn : n ≠ 0) (w : World) (hf : RfAt w b P g) : Calls Try.prog 23 #[.pointer (some ⟨b, 0, none⟩), .int .u8 (a.toNat : Int), .int .i64 n] w fun e w' => e = .returned (.tuple #[.int .u8 ((pwI P a n).toNat : Int), .int .i64 0]) ∧ w' = w := by
  have hs := emod_small n
  have HP : Hid (Calls Try.prog 52 #[.pointer (some ⟨b, 0, none⟩), .int .u8 (a.toNat : Int), .int .i64 (((n % 255).toNat : Nat) : Int)] w fun e w' => e = .returned (.int .u8 ((pwI P a n).toNat : Int)) ∧ w' = w) := power_any a (n % 255).toNat (by omega) w hf
  have hx0 := u8_ne ha
  have hxb := u8_bne ha
  have hnb : (n == 0) = false := by simpa using hn
  have h1 := tmod_lo n
  have h2 := tmod_hi n
  have hw1 : IntKind.i64.wrap (n.tmod 255 + 255) = n.tmod 255 + 255 := by rw [IntKind.wrap_i64]; omega
  have hw2 : wrap64 (n.tmod 255 + 255) = n.tmod 255 + 255 := by unfold wrap64; omega
  have ht := tmod2 n
  generalize ((pwI P a n).toNat : Int) = R at *
  generalize (((n % 255).toNat : Nat) : Int) = M at *
  clear hf hs ha
  go_enter Try.func23, Try.ntmps23
  go_wp2_with (go_at_call 52; refine HP.out.mono ?_; rintro e w2 ⟨rfl, hb2⟩)
  refine bodyPost_ret (v := .tuple #[.int .u8 R, .int .i64 0]) (by simp [results, Try.results23, go_sem]) rfl ?_
  exact ⟨rfl, by first | rfl | exact hb2⟩

set_option maxRecDepth 100000 in
set_option maxHeartbeats 400000 in
theorem refLog_any {P g : UInt8} {b : Nat} (ho : ordS P g = 255) (a : UInt8) (w : World) (hf : RfAt w b P g) : Calls Try.prog 25 #[.pointer (some ⟨b, 0, none⟩), .int .u8 (a.toNat : Int)] w fun e w' => e = .returned (.tuple #[.int .i64 (if a = 0 then 0 else ((lg P g a : Nat) : Int)), .int .i64 (if a = 0 then 51 else 0)]) ∧ w' = w := by
  have HC : Hid (∀ k, Calls Try.prog 27 #[.pointer (some ⟨b, 0, none⟩), .int .u8 ((pw P g k).toNat : Int), .int .u8 (g.toNat : Int)] w fun e w' => e = .returned (.int .u8 ((pw P g (k + 1)).toNat : Int)) ∧ w' = w) := fun k => refMul_any (pw P g k) g w hf
  have hc := hf.c1
  have HF : Hid (∀ k, k < 255 → pw P g k = a → (if a = 0 then (0 : Int) else ((lg P g a : Nat) : Int)) = k ∧ (if a = 0 then (51 : Int) else 0) = 0) := fun k hk he => by
    have : a ≠ 0 := fun h0 => pw_ne ho k (he.trans h0)
    rw [if_neg this, if_neg this, ← he, lg_pw ho hk]
    exact ⟨rfl, rfl⟩
  have HN : Hid ((∀ k, k < 255 → pw P g k ≠ a) → (if a = 0 then (0 : Int) else ((lg P g a : Nat) : Int)) = 0 ∧ (if a = 0 then (51 : Int) else 0) = 51) := fun h => by
    have : a = 0 := Classical.byContradiction fun h0 => by
      obtain ⟨k, hk, he⟩ := pw_all ho h0
      exact h k hk he
    rw [if_pos this, if_pos this]
    exact ⟨rfl, rfl⟩
  generalize (if a = 0 then (0 : Int) else ((lg P g a : Nat) : Int)) = R1 at *
  generalize (if a = 0 then (51 : Int) else 0) = R2 at *
  clear hf
  go_enter Try.func25, Try.ntmps25
  go_wp2_with fail
  go_loopw [6, 7] (fun x i wr => ∃ k : Nat, k ≤ 255 ∧ i = .int .i64 k ∧ x = .int .u8 ((pw P g k).toNat : Int) ∧ (∀ m, m < k → pw P g m ≠ a) ∧ wr = w) (fun _ i _ => 255 - (intOf i).toNat)
  case atStart => exact ⟨0, Nat.zero_le _, rfl, rfl, fun m hm => absurd hm (Nat.not_lt_zero _), rfl⟩
  case round =>
    obtain ⟨k, hk, rfl, rfl, hall, rfl⟩ := hrel
    have HA := hidD hall
    clear hall
    by_cases hlt : k < 255
    · have hlti : (k : Int) < 255 := by omega
      by_cases he : pw P g k = a
      · have HE := hidD (HF.out k hlt he)
        have hv : ((pw P g k).toNat : Int) = (a.toNat : Int) := by rw [he]
        generalize ((pw P g k).toNat : Int) = X at *
        generalize (a.toNat : Int) = Y at *
        subst hv
        clear he
        go_wp2_with fail
        refine bodyPost_ret (v := .tuple #[.int .i64 k, .int .i64 0]) (by simp [results, Try.results25, go_sem]) rfl ?_
        exact ⟨by rw [HE.out.1, HE.out.2], rfl⟩
      · have HCk := hidD (HC.out k)
        have hv : ¬ ((pw P g k).toNat : Int) = (a.toNat : Int) := fun h => he (UInt8.toNat.inj (by omega))
        have HN2 : Hid (∀ m, m < k + 1 → pw P g m ≠ a) := fun m hm => by
          by_cases hmk : m = k
          · subst hmk; exact he
          · exact HA.out m (by omega)
        clear he
        generalize hx : ((pw P g (k + 1)).toNat : Int) = X at *
        have HX := hidD hx
        clear hx
        generalize ((pw P g k).toNat : Int) = Y at *
        go_wp2_with (go_at_call 27; refine HCk.out.mono ?_; rintro e w3 ⟨rfl, hb3⟩)
        go_roundw
        case rel => exact ⟨k + 1, by omega, by go_num, by rw [HX.out], HN2.out, trivial⟩
        case measure => simp [intOf]; omega
    · obtain rfl : k = 255 := by omega
      have HE := hidD (HN.out HA.out)
      generalize ((pw P g 255).toNat : Int) = X at *
      go_wp2_with fail
      refine bodyPost_ret (v := .tuple #[.int .i64 0, .int .i64 51]) (by simp [results, Try.results25, go_sem]) rfl ?_
      exact ⟨by rw [HE.out.1, HE.out.2], rfl⟩

set_option maxRecDepth 100000 in
set_option maxHeartbeats 400000 in
theorem refNew_out (Q : Int) (h : ¬ (256 ≤ Q ∧ Q ≤ 511)) (g : UInt8) (w : World) : Calls Try.prog 17 #[.int .i64 Q, .int .u8 (g.toNat : Int)] w fun e w' => e = .returned (.tuple #[.pointer none, .int .i64 50]) ∧ Below w.heap.size w w' := by
  have HW : Hid (Below w.heap.size w w) := Below.refl _ _
  have HI := hidD (fun w => refIrr_out Q h w)
  clear h
  go_enter Try.func17, Try.ntmps17
  go_wp2_with (go_at_call 12; refine (HI.out _).mono ?_; rintro e w2 ⟨rfl, hb2⟩)
  refine bodyPost_ret (v := .tuple #[.pointer none, .int .i64 50]) (by simp [results, Try.results17, go_sem]) rfl ?_
  exact ⟨rfl, HW.out⟩
set_option maxRecDepth 100000 in
set_option maxHeartbeats 400000 in
theorem refNew_bad (P g : UInt8) (Q : Int) (hQ : Q = 256 + (P.toNat : Int)) (hbad : ¬ (irrS (256 + P.toNat) = true ∧ ordS P g = 255)) (w : World) : Calls Try.prog 17 #[.int .i64 Q, .int .u8 (g.toNat : Int)] w fun e w' => e = .returned (.tuple #[.pointer none, .int .i64 50]) ∧ Below w.heap.size w w' := by
  have HW : Hid (Below w.heap.size w w) := Below.refl _ _
  have hP := u8_lt P
  have HI : Hid (∀ w, Calls Try.prog 12 #[.int .i64 Q] w fun e w' => e = .returned (.bool (irrS (256 + P.toNat))) ∧ w' = w) := fun w => by
    have := refIrr_in (256 + P.toNat) (by omega) (by omega) w
    rw [show ((256 + P.toNat : Nat) : Int) = Q by omega] at this
    exact this
  have HO := hidD (fun w => refOrder_in P g Q hQ w)
  generalize irrS (256 + P.toNat) = I at *
  generalize ordS P g = O at *
  clear hQ hP
  cases I
  · clear hbad
    go_enter Try.func17, Try.ntmps17
    go_wp2_with (go_at_call 12; refine (HI.out _).mono ?_; rintro e w2 ⟨rfl, hb2⟩)
    refine bodyPost_ret (v := .tuple #[.pointer none, .int .i64 50]) (by simp [results, Try.results17, go_sem]) rfl ?_
    exact ⟨rfl, HW.out⟩
  · have ho : ¬ (O : Int) = 255 := fun h => hbad ⟨rfl, by omega⟩
    have hob : ((O : Int) == 255) = false := by simpa using ho
    clear hbad
    go_enter Try.func17, Try.ntmps17
    go_wp2_with (first | (go_at_call 12; refine (HI.out _).mono ?_; rintro e w2 ⟨rfl, hb2⟩) | (go_at_call 14; refine (HO.out _).mono ?_; rintro e w2 ⟨rfl, hb2⟩))
    refine bodyPost_ret (v := .tuple #[.pointer none, .int .i64 50]) (by simp [results, Try.results17, go_sem]) rfl ?_
    exact ⟨rfl, HW.out⟩
set_option maxRecDepth 100000 in
set_option maxHeartbeats 400000 in
theorem refNew_ok (P g : UInt8) (Q : Int) (hQ : Q = 256 + (P.toNat : Int)) (hirr : irrS (256 + P.toNat) = true) (hord : ordS P g = 255) (w : World) : Calls Try.prog 17 #[.int .i64 Q, .int .u8 (g.toNat : Int)] w fun e w' => ∃ b, e = .returned (.tuple #[.pointer (some ⟨b, 0, none⟩), .int .i64 0]) ∧ w.heap.size ≤ b ∧ RfAt w' b P g ∧ Below w.heap.size w w' := by
  have hP := u8_lt P
  have HI : Hid (∀ w, Calls Try.prog 12 #[.int .i64 Q] w fun e w' => e = .returned (.bool true) ∧ w' = w) := fun w => by
    have := refIrr_in (256 + P.toNat) (by omega) (by omega) w
    rw [show ((256 + P.toNat : Nat) : Int) = Q by omega, hirr] at this
    exact this
  have HO : Hid (∀ w, Calls Try.prog 14 #[.int .i64 Q, .int .u8 (g.toNat : Int)] w fun e w' => e = .returned (.int .i64 255) ∧ w' = w) := fun w => by
    have := refOrder_in P g Q hQ w
    rw [hord] at this
    exact this
  have HN := hidD (fun t => RfAt.new w P g Q hQ t)
  clear hQ hP hirr hord
  go_enter Try.func17, Try.ntmps17
  go_wp2_with (first | (go_at_call 12; refine (HI.out _).mono ?_; rintro e w2 ⟨rfl, hb2⟩) | (go_at_call 14; refine (HO.out _).mono ?_; rintro e w2 ⟨rfl, hb2⟩))
  refine bodyPost_ret (v := .tuple #[.pointer (some ⟨w.heap.size, 0, none⟩), .int .i64 0]) (by simp [results, Try.results17, go_sem]) rfl ?_
  exact ⟨_, rfl, Nat.le_refl _, HN.out _, (Below.refl _ _).alloc (Nat.le_refl _) _⟩
end Go.Proofs.Ytfngnajjlhnglaa
