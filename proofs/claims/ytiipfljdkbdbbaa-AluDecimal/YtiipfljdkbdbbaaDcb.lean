/- AluDecimal. -/
import Derived.Test.YtiipfljdkbdbbaaDca
namespace Go.Proofs.Ytiipfljdkbdbbaa
open Go.RowKit
set_option linter.unusedVariables false

theorem aluDecimal_any (x y : Int) (p : Nat) (bx : -9223372036854775808 ≤ x ∧ x < 9223372036854775808) (by1 : -9223372036854775808 ≤ y ∧ y < 9223372036854775808) (hp : p < 256) (w : World) : Calls Try.prog 8 #[.int .i64 x, .int .i64 y, .int .u8 (p : Int)] w fun e w' => e = .returned (.bool true) ∧ Below w.heap.size w w' := by
  have hD := (orD p hp).1
  have hP := (orD p hp).2
  have e3 := or8 p hp
  generalize p ||| 8 = P at *
  have go : ∀ n k : Int, 0 ≤ n → 0 ≤ k → ∀ X Y : Nat, n % 100 = (X : Int) → k % 100 = (Y : Int) → X < 100 → Y < 100 →
      ((x < 0 ∧ -(x + 1) = n) ∨ (¬ x < 0 ∧ x = n)) → ((y < 0 ∧ -(y + 1) = k) ∨ (¬ y < 0 ∧ y = k)) → Calls Try.prog 8 #[.int .i64 x, .int .i64 y, .int .u8 (p : Int)] w fun e w' => e = .returned (.bool true) ∧ Below w.heap.size w w' := by
    intro n k hn hk X Y e1 e2 hX hY hx hy
    have hc := cy_lt P
    have ha := pk_lt hX
    have hb := pk_lt hY
    obtain ⟨s1, s2⟩ := dec_sum hX hY hc
    obtain ⟨l1, l2⟩ := dec_less hX hY hc
    have H1 := add_any (pk X) (pk Y) P ha hb hP
    have H2 := sub_any (pk X) (pk Y) P ha hb hP
    have H3 := decimal_any (pk X) (pk Y) P ha hb hP
    have v1 : addV (pk X) (pk Y) P = pk ((X + Y + cyN P) % 100) := by unfold addV; rw [hD, if_pos rfl]; exact s1
    have v2 : subV (pk X) (pk Y) P = pk (((X : Int) - (Y : Int) - 1 + (cyN P : Int)) % 100).toNat := by unfold subV; rw [hD, if_pos rfl]; exact l1
    have o1 : dcO (pk X) (pk Y) = true := by unfold dcO; rw [(pk_dig X hX).1, (pk_dig Y hY).1]; rfl
    have v3 : dcS (pk X) (pk Y) P = pk ((X + Y + cyN P) % 100) := by
      unfold dcS dO; rw [o1, if_pos rfl, (pk_dig X hX).2, (pk_dig Y hY).2]; congr 1
    have v4 : dcD (pk X) (pk Y) P = pk (((X : Int) - (Y : Int) - 1 + (cyN P : Int)) % 100).toNat := by
      unfold dcD dO; rw [o1, if_pos rfl, (pk_dig X hX).2, (pk_dig Y hY).2]
    rw [v1] at H1
    rw [v2] at H2
    rw [v3, v4, o1] at H3
    have hq : addF (pk X) (pk Y) P < 256 := addF_lt hP
    have hf : subF (pk X) (pk Y) P < 256 := bf_lt hP
    have w0 : addF (pk X) (pk Y) P = adF (pk X) (pk Y) P := by unfold addF; rw [hD, if_pos rfl]
    have b1 : ∀ (z : Bool), wi P 2 z < 256 := fun z => wi_lt hP (by decide) z
    have b2 : ∀ (z n : Bool), wi (wi P 2 z) 128 n < 256 := fun z n => wi_lt (b1 z) (by decide) n
    have b3 : ∀ (z n v : Bool), wi (wi (wi P 2 z) 128 n) 64 v < 256 := fun z n v => wi_lt (b2 z n) (by decide) v
    have g1 : (bits .and .u8 (addF (pk X) (pk Y) P : Int) 1 != 0) = decide ((99 : Int) < ((X + Y + cyN P : Nat) : Int)) := by
      rw [and1_ne _ hq, w0]; exact ((wi_one _ (b3 _ _ _) _).1.trans s2).trans (gt_nat 99 _).symm
    have g2 : (bits .and .u8 (subF (pk X) (pk Y) P : Int) 1 != 0) = decide (0 ≤ (X : Int) - (Y : Int) - 1 + (cyN P : Int)) := by
      rw [and1_ne _ hf]; exact (fl_one P hP _ _ _ _).trans l2
    have g3 : (bits .and .u8 (addF (pk X) (pk Y) P : Int) 8 != 0) = true := by
      rw [and8_ne _ hq, w0]
      have h8 : adF (pk X) (pk Y) P / 8 % 2 = P / 8 % 2 := (wi_one _ (b3 _ _ _) _).2.trans (wi_eight P hP _ _ _)
      rw [h8]; exact hD
    have e4 := and1N P hP
    have r1 : (((X : Int) - (Y : Int) - 1 + (cyN P : Int)) % 100).toNat < 100 := by omega
    have r2 : (X + Y + cyN P) % 100 < 100 := Nat.mod_lt _ (by decide)
    have e7 : ((X + Y + cyN P : Nat) : Int) % 100 = (((X + Y + cyN P) % 100 : Nat) : Int) := by omega
    have e8 : ((X : Int) - (Y : Int) - 1 + (cyN P : Int) + 100) % 100 = (((((X : Int) - (Y : Int) - 1 + (cyN P : Int)) % 100).toNat : Nat) : Int) := by omega
    have e9 : ((X : Int) - (Y : Int) - 1 + (cyN P : Int)) % 100 = (((((X : Int) - (Y : Int) - 1 + (cyN P : Int)) % 100).toNat : Nat) : Int) := by omega
    have hL : -101 < (X : Int) - (Y : Int) - 1 + (cyN P : Int) ∧ (X : Int) - (Y : Int) - 1 + (cyN P : Int) < 101 := by omega
    have hT : X + Y + cyN P < 300 := by omega
    rcases hx with ⟨hx, ex⟩ | ⟨hx, ex⟩ <;> rcases hy with ⟨hy, ey⟩ | ⟨hy, ey⟩
    · exact dec_11 x y n k p P X Y _ _ _ _ _ hx ex hy ey bx by1 hn hk (congrArg _ e1) (congrArg _ e2) hX hY (pk_int X) (pk_int Y) e3 e4 hc H1 H2 H3 _ (by omega) rfl hL hT g1 g2 g3 (congrArg _ e7) (congrArg _ e8) (congrArg _ e9) (pk_int _) (pk_int _) r2 r1 w
    · exact dec_10 x y n k p P X Y _ _ _ _ _ hx ex hy ey bx by1 hn hk (congrArg _ e1) (congrArg _ e2) hX hY (pk_int X) (pk_int Y) e3 e4 hc H1 H2 H3 _ (by omega) rfl hL hT g1 g2 g3 (congrArg _ e7) (congrArg _ e8) (congrArg _ e9) (pk_int _) (pk_int _) r2 r1 w
    · exact dec_01 x y n k p P X Y _ _ _ _ _ hx ex hy ey bx by1 hn hk (congrArg _ e1) (congrArg _ e2) hX hY (pk_int X) (pk_int Y) e3 e4 hc H1 H2 H3 _ (by omega) rfl hL hT g1 g2 g3 (congrArg _ e7) (congrArg _ e8) (congrArg _ e9) (pk_int _) (pk_int _) r2 r1 w
    · exact dec_00 x y n k p P X Y _ _ _ _ _ hx ex hy ey bx by1 hn hk (congrArg _ e1) (congrArg _ e2) hX hY (pk_int X) (pk_int Y) e3 e4 hc H1 H2 H3 _ (by omega) rfl hL hT g1 g2 g3 (congrArg _ e7) (congrArg _ e8) (congrArg _ e9) (pk_int _) (pk_int _) r2 r1 w
  have pos : ∀ z : Int, ∃ n : Int, 0 ≤ n ∧ ((z < 0 ∧ -(z + 1) = n) ∨ (¬ z < 0 ∧ z = n)) := fun z => by
    by_cases h : z < 0
    · exact ⟨-(z + 1), by omega, Or.inl ⟨h, rfl⟩⟩
    · exact ⟨z, by omega, Or.inr ⟨h, rfl⟩⟩
  obtain ⟨n, hn, hx⟩ := pos x
  obtain ⟨k, hk, hy⟩ := pos y
  exact go n k hn hk (n % 100).toNat (k % 100).toNat (by omega) (by omega) (by omega) (by omega) hx hy
end Go.Proofs.Ytiipfljdkbdbbaa
