/- AluCompares. -/
import Derived.Test.YtiipfljdkbdbbabLiv
import Derived.Below
namespace Go.Proofs.Ytiipfljdkbdbbab
open Go.RowKit
set_option linter.unusedVariables false

theorem and2_ne : ∀ v < 256, (bits .and .u8 ((v : Nat) : Int) 2 != 0) = decide (v / 2 % 2 = 1) := by decide +kernel
theorem andNot8 : ∀ v < 256, bits .andNot .u8 ((v : Nat) : Int) 8 = ((v &&& 247 : Nat) : Int) := by decide +kernel
theorem or1 : ∀ v < 256, bits .or .u8 ((v : Nat) : Int) 1 = ((v ||| 1 : Nat) : Int) := by decide +kernel
theorem and131 : ∀ v < 256, bits .and .u8 ((v : Nat) : Int) 131 = ((v &&& 131 : Nat) : Int) := by decide +kernel
theorem andNot131 : ∀ v < 256, bits .andNot .u8 ((v : Nat) : Int) 131 = ((v &&& 124 : Nat) : Int) := by decide +kernel
theorem noD1 : ∀ v < 256, dD (v &&& 247 ||| 1) = false ∧ v &&& 247 ||| 1 < 256 ∧ cyN (v &&& 247 ||| 1) = 1 ∧ v &&& 247 < 256 := by decide +kernel
def thr (c n z : Bool) : Nat := c.toNat + n.toNat * 128 + z.toNat * 2
theorem cmp_tab : ∀ p < 256, ∀ c n z : Bool, wi (wi (wi p 1 c) 128 n) 2 z &&& 131 = thr c n z ∧ wi (wi (wi p 1 c) 128 n) 2 z &&& 124 = p &&& 124 ∧ decide (wi (wi (wi p 1 c) 128 n) 2 z % 2 = 1) = c ∧ decide (wi (wi (wi p 1 c) 128 n) 2 z / 2 % 2 = 1) = z := by decide +kernel
theorem sub_tab : ∀ p < 256, ∀ c v n z : Bool, wi (wi (wi (wi p 1 c) 64 v) 128 n) 2 z &&& 131 = thr c n z := by decide +kernel
theorem eq_beq (a b : Nat) : ((a : Int) == (b : Int)) = decide (a = b) := by
  by_cases h : a = b
  · subst h; simp
  · rw [decide_eq_false h]; simp; omega
def cmF (a b p : Nat) : Nat := fl ((a + (256 - b)) % 256) (wi p 1 (decide (b ≤ a)))
theorem cmF_lt (a b : Nat) {p : Nat} (hp : p < 256) : cmF a b p < 256 := fl_lt (wi_lt hp (by decide) _)
theorem cmF_any (a b p : Nat) (ha : a < 256) (hb : b < 256) (hp : p < 256) : W1 10 #[.int .u8 (a : Int), .int .u8 (b : Int), .int .u8 (p : Int)] (.int .u8 (cmF a b p : Int)) := compare_any a b p ha hb hp

set_option maxRecDepth 100000 in
set_option maxHeartbeats 1600000 in
theorem aluCompares_any (a b p : Nat) (ha : a < 256) (hb : b < 256) (hp : p < 256) (w : World) : Calls Try.prog 4 #[.int .u8 (a : Int), .int .u8 (b : Int), .int .u8 (p : Int)] w fun e w' => e = .returned (.bool true) ∧ Below w.heap.size w w' := by
  obtain ⟨hD, hP, hC, h0⟩ := noD1 p hp
  have e1 := andNot8 p hp
  have e2 := or1 _ h0
  generalize p &&& 247 = P0 at *
  generalize P0 ||| 1 = P at *
  have H1 := hidD (cmF_any a b p ha hb hp)
  have H2 : Hid (W1 11 #[.int .u8 (a : Int), .int .u8 (b : Int), .int .u8 (P : Int)] (.tuple #[.int .u8 ((sB a (255 - b) P % 256 : Nat) : Int), .int .u8 (bf a (255 - b) P : Int)])) := by
    have h := sub_any a b P ha hb hP
    unfold subV subF at h
    rw [hD, if_neg (by decide)] at h
    exact h
  have hs : sB a (255 - b) P % 256 = (a + (256 - b)) % 256 := by unfold sB; rw [hC]; congr 1; omega
  have hu : decide (255 < sB a (255 - b) P) = decide (b ≤ a) := by
    unfold sB; rw [hC]
    by_cases h : b ≤ a
    · rw [decide_eq_true h, decide_eq_true (by omega)]
    · rw [decide_eq_false h, decide_eq_false (by omega)]
  have hr : bf a (255 - b) P < 256 := bf_lt hP
  have hq := cmF_lt a b hp
  obtain ⟨t1, t2, t3, t4⟩ := cmp_tab p hp (decide (b ≤ a)) (decide (128 ≤ (a + (256 - b)) % 256)) (decide ((a + (256 - b)) % 256 = 0))
  have f1 : bits .and .u8 (cmF a b p : Int) 131 = ((thr (decide (b ≤ a)) (decide (128 ≤ (a + (256 - b)) % 256)) (decide ((a + (256 - b)) % 256 = 0)) : Nat) : Int) := by
    rw [and131 _ hq]; exact congrArg _ t1
  have f2 : bits .and .u8 (bf a (255 - b) P : Int) 131 = ((thr (decide (b ≤ a)) (decide (128 ≤ (a + (256 - b)) % 256)) (decide ((a + (256 - b)) % 256 = 0)) : Nat) : Int) := by
    rw [and131 _ hr, ← hs, ← hu]; exact congrArg _ (sub_tab P hP _ _ _ _)
  have f3 : bits .andNot .u8 (cmF a b p : Int) 131 = ((p &&& 124 : Nat) : Int) := by
    rw [andNot131 _ hq]; exact congrArg _ t2
  have f4 := andNot131 p hp
  have f5 : (bits .and .u8 (cmF a b p : Int) 1 != 0) = decide (b ≤ a) := by rw [and1_ne _ hq]; exact t3
  have f6 : (bits .and .u8 (cmF a b p : Int) 2 != 0) = ((a : Int) == (b : Int)) := by
    rw [and2_ne _ hq, eq_beq]
    refine (show decide (cmF a b p / 2 % 2 = 1) = decide ((a + (256 - b)) % 256 = 0) from t4).trans ?_
    by_cases h : a = b
    · rw [decide_eq_true h, decide_eq_true (by omega)]
    · rw [decide_eq_false h, decide_eq_false (by omega)]
  generalize thr (decide (b ≤ a)) (decide (128 ≤ (a + (256 - b)) % 256)) (decide ((a + (256 - b)) % 256 = 0)) = t at *
  generalize p &&& 124 = u at *
  generalize cmF a b p = q at *
  generalize bf a (255 - b) P = r at *
  generalize sB a (255 - b) P % 256 = d at *
  clear t1 t2 t3 t4 hs hu
  go_enter Try.func4, Try.ntmps4
  go_wp2_with (first | (go_at_call 10; refine (H1.out _).mono ?_; rintro e w2 ⟨rfl, rfl⟩) | (go_at_call 11; refine (H2.out _).mono ?_; rintro e w2 ⟨rfl, rfl⟩) | (go_at_call 5; refine (live_any _).mono ?_; rintro e w2 ⟨rfl, rfl⟩))
  go_ret
  exact ⟨by first | rfl | (simp; done), Below.refl _ _⟩

end Go.Proofs.Ytiipfljdkbdbbab
