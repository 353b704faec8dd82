/- What the program's Linear answers. -/
import Derived.Test.YtdbledfpphkppaaPgw
namespace Go.Proofs.Ytdbledfpphkppaa
open Go.RowKit
set_option linter.unusedVariables false

theorem max3 (a b c : Int) (w : World) : Sem.run Try.prog (Builtin.max_ #[3, 3, 3] 3 #[.int .i64 a, .int .i64 b, .int .i64 c]) w = .ok (.int .i64 (max (max a b) c)) w := by
  have h : Sem.run Try.prog (Builtin.max_ #[3, 3, 3] 3 #[.int .i64 a, .int .i64 b, .int .i64 c]) w = .ok (.int .i64 (if c > if b > a then b else a then c else if b > a then b else a)) w := rfl
  rw [h]
  by_cases h1 : b > a
  · rw [if_pos h1]
    by_cases h2 : c > b
    · rw [if_pos h2, show max (max a b) c = c by omega]
    · rw [if_neg h2, show max (max a b) c = b by omega]
  · rw [if_neg h1]
    by_cases h2 : c > a
    · rw [if_pos h2, show max (max a b) c = c by omega]
    · rw [if_neg h2, show max (max a b) c = a by omega]
theorem off_two (t : Nat → Nat) {a b : Nat} (ha : a < 256) : max ((whS (sgS t b) 8 a).tdiv 2) ((-whS (sgS t b) 8 a).tdiv 2) = (offS t a b : Int) := by
  rw [wh_lin (f := sgS t b) (t := t) (b := b) ha (fun x => rfl)]
  unfold offS
  by_cases h : 128 ≤ linS t a b
  · rw [Int.tdiv_eq_ediv_of_nonneg (by omega), show -(2 * (linS t a b : Int) - 256) = -((2 * linS t a b - 256 : Nat) : Int) by omega, Int.neg_tdiv, Int.tdiv_eq_ediv_of_nonneg (by omega)]
    omega
  · rw [show (2 * (linS t a b : Int) - 256) = -((256 - 2 * linS t a b : Nat) : Int) by omega, Int.neg_neg, Int.neg_tdiv, Int.tdiv_eq_ediv_of_nonneg (by omega)]
    omega
set_option maxRecDepth 100000 in
set_option maxHeartbeats 800000 in
theorem pLin_any (l : List UInt8) (hl : l.length = 256) (v : Value) (w : World) (hv : ByAt w v l) : Calls Try.prog 35 #[v] w fun e w' => e = .returned (.tuple #[.int .i64 (strS (tbN l) : Nat), .int .i64 0]) ∧ Below w.heap.size w w' := by
  obtain ⟨a', cap, rfl, _⟩ := hv.shape
  have HI := hidD (fun w => right_any l.length cap a' w)
  rw [show decide (l.length = 256) = true by simpa using hl] at HI
  have HD : Hid (∀ B, B < 256 → ∀ wr, Below w.heap.size w wr → Calls Try.prog 60 #[.slice a' l.length cap, .int .u8 ((B : Nat) : Int)] wr fun e w' => e = .returned (.agg (rowZ .i64 256 (whS (sgS (tbN l) B) 8))) ∧ Below wr.heap.size wr w') := fun B hB wr hb => pTwice_any l hl B hB _ wr (hv.next hb)
  have HIX : Hid (∀ B k : Nat, k < 256 → ∀ w, (Instr.index 60 (.agg (rowZ .i64 256 (whS (sgS (tbN l) B) 8))) (.int .i64 (k : Int))).run Try.prog w = .ok (.int .i64 (whS (sgS (tbN l) B) 8 k)) w) := fun B k hk w => index256 _ k _ hk (rowZ_get .i64 256 _ k hk) w
  have HR : Hid (strS (tbN l) = bestL (tbN l) 255) := rfl
  generalize strS (tbN l) = R at *
  generalize tbN l = t at *
  generalize l.length = n at *
  clear hv hl
  go_enter Try.func35, Try.ntmps35
  go_wp2_with (go_at_call 50; refine (HI.out _).mono ?_; rintro e w1 ⟨rfl, rfl⟩)
  go_loopw [4, 5] (fun b i wr => ∃ k : Nat, k ≤ 255 ∧ i = .int .i64 (k + 1 : Nat) ∧ b = .int .i64 ((bestL t k : Nat) : Int) ∧ Below w1.heap.size w1 wr) (fun _ i _ => 256 - (intOf i).toNat)
  case atStart => exact ⟨0, Nat.zero_le _, rfl, rfl, Below.refl _ _⟩
  case round =>
    obtain ⟨j, hj, rfl, rfl, hbel⟩ := hrel
    have HBL := hidD hbel
    by_cases hlt : j < 255
    · have hlti : ((j + 1 : Nat) : Int) < 256 := by omega
      have hA : j + 1 < 256 := by omega
      have HLE := hidD (bestL_le t j)
      generalize hA' : j + 1 = B at *
      have hmod : (B : Int) % 256 = B := by omega
      have HA := hidD hA'
      have HDA := hidD (HD.out B hA wr hbel)
      clear hA' hbel
      have HIXA := hidD (HIX.out B)
      generalize hC : rowZ .i64 256 (whS (sgS t B) 8) = C at *
      clear hC
      go_wp2_with (go_at_call 60; refine HDA.out.mono ?_; rintro e w2 ⟨rfl, hb2⟩; have HB2 := hidD (Below.next HBL.out hb2); clear hb2)
      go_loopw [4, 19] (fun b i wr => ∃ k : Nat, k ≤ 256 ∧ i = .int .i64 k ∧ b = .int .i64 ((max (bestL t j) (mx (fun a => offS t a B) k) : Nat) : Int) ∧ wr = w2) (fun _ i _ => 256 - (intOf i).toNat)
      case atStart => exact ⟨0, Nat.zero_le _, rfl, by rw [mx, show max (bestL t j) 0 = bestL t j from by omega], rfl⟩
      case round =>
        obtain ⟨k, hk, rfl, rfl, rfl⟩ := hrel
        by_cases hlk : k < 256
        · have hlki : (k : Int) < 256 := by omega
          have hix := fun w => HIXA.out k hlk w
          have HM : Hid (max (bestL t j) (mx (fun a => offS t a B) (k + 1)) = max (max (bestL t j) (mx (fun a => offS t a B) k)) (offS t k B)) := by show max (bestL t j) (max (mx (fun a => offS t a B) k) (offS t k B)) = _; omega
          have hml : max (bestL t j) (mx (fun a => offS t a B) k) ≤ 128 := Nat.max_le.2 ⟨HLE.out, mx_le fun d _ => off_le _ _ _⟩
          have HOF := hidD (off_two t (a := k) (b := B) hlk)
          have hbd := wh_bound (sg_bound t B) 8 k
          have hb1 : -256 ≤ whS (sgS t B) 8 k := hbd.1
          have hb2 : whS (sgS t B) 8 k ≤ 256 := hbd.2
          clear hbd
          generalize max (bestL t j) (mx (fun a => offS t a B) k) = M at *
          generalize offS t k B = O at *
          generalize whS (sgS t B) 8 k = X at *
          have hO := HOF.out
          rw [Int.neg_tdiv] at hO
          have ht : -128 ≤ X.tdiv 2 ∧ X.tdiv 2 ≤ 128 := by
            by_cases h0 : 0 ≤ X
            · rw [Int.tdiv_eq_ediv_of_nonneg h0]; omega
            · rw [show X = -(-X) by omega, Int.neg_tdiv, Int.tdiv_eq_ediv_of_nonneg (by omega)]; omega
          have hwt : wrap64 (-X.tdiv 2) = -X.tdiv 2 := by unfold wrap64; omega
          have hwT : wrap64 (X.tdiv 2) = X.tdiv 2 := by unfold wrap64; omega
          obtain ⟨T, hdv⟩ : ∃ T, X.tdiv 2 = T := ⟨_, rfl⟩
          rw [hdv] at hwt hwT hO ht
          have hmx3 := fun w => max3 (M : Int) T (-T) w
          rw [show max (max (M : Int) T) (-T) = ((max M O : Nat) : Int) by omega, ← HM.out] at hmx3
          clear hO ht
          generalize hN : max (bestL t j) (mx (fun a => offS t a B) (k + 1)) = N at *
          have HN := hidD hN
          clear hN
          go_wp2_with fail
          go_roundw
          case rel => exact ⟨k + 1, by omega, by go_num, by rw [HN.out], by first | trivial | rfl⟩
          case measure => simp [intOf] <;> omega
        · obtain rfl : k = 256 := by omega
          have HBB : Hid ((max (bestL t j) (mx (fun a => offS t a B) 256) : Nat) = bestL t B) := by show _ = _; rw [← HA.out]; rfl
          rw [HBB.out]
          have hA2 := HA.out
          generalize hbs : bestL t B = M at *
          have HM := hidD hbs
          clear hbs
          go_wp2_with fail
          go_roundw
          case rel => exact ⟨B, by omega, by go_num, by rw [HM.out], HB2.out⟩
          case measure => simp [intOf]; omega
    · obtain rfl : j = 255 := by omega
      rw [← HR.out]
      clear hbel
      go_wp2_with fail
      refine bodyPost_ret (v := .tuple #[.int .i64 (R : Int), .int .i64 0]) (by simp [results, Try.results35, go_sem]) rfl ?_
      exact ⟨rfl, HBL.out⟩
end Go.Proofs.Ytdbledfpphkppaa
