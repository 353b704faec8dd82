/- What the document's Valid answers. -/
import Derived.Test.YtjmaejdkdpiigaaW1
namespace Go.Proofs.Ytjmaejdkdpiigaa
open Go.RowKit
set_option linter.unusedVariables false

theorem undef_bool0 {b : Bool} (h : some undef = some (Value.bool b)) : False := by injection h with h1; cases h1
set_option maxRecDepth 100000 in
set_option maxHeartbeats 1600000 in
theorem refValid_any {W r : Nat} (h : Wid W r) (D C : Nat) (hD : D < 18446744073709551616) (hC : C < 256) (w : World) : Calls Try.prog 12 #[.int .i64 (W : Int), .agg (wdC D C)] w fun e w' => e = .returned (.bool (decide (D < 2 ^ W ∧ C < 2 ^ (r + 1)))) ∧ Below w.heap.size w w' := by
  have HC : Hid (∀ w, Calls Try.prog 9 #[.int .i64 (W : Int)] w fun e w' => e = .returned (.tuple #[.int .i64 (r : Int), .int .i64 0]) ∧ w' = w) := fun w => refChecks_ok h w
  have hr := h.le
  obtain ⟨h0, h1⟩ := wd_cells w D C 26
  have HB : Hid (Below w.heap.size w (w.alloc (.cells (wdC D C) 26))) := (Below.refl _ _).alloc (Nat.le_refl _) _
  unfold wdC at *
  have hsum : (r : Int) + 1 = ((r + 1 : Nat) : Int) := by omega
  have hq : (C : Int) / 2 ^ (r + 1) = ((C / 2 ^ (r + 1) : Nat) : Int) := by simp
  have HZ : Hid ((((C / 2 ^ (r + 1) : Nat) : Int) == 0) = decide (C < 2 ^ (r + 1))) := by
    show _ = _
    by_cases h : C < 2 ^ (r + 1)
    · rw [decide_eq_true h, Nat.div_eq_of_lt h]; rfl
    · have : 0 < C / 2 ^ (r + 1) := Nat.div_pos (by omega) (Nat.two_pow_pos _)
      rw [decide_eq_false h]; simp; omega
  have hr8 : r + 1 ≤ 8 := by omega
  have hW64 : W = 64 → D < 2 ^ W := fun e => by rw [e]; exact hD
  have hqW : (D : Int) / 2 ^ W = ((D / 2 ^ W : Nat) : Int) := by simp
  have HZW : Hid ((((D / 2 ^ W : Nat) : Int) == 0) = decide (D < 2 ^ W)) := by
    show _ = _
    by_cases h : D < 2 ^ W
    · rw [decide_eq_true h, Nat.div_eq_of_lt h]; rfl
    · have : 0 < D / 2 ^ W := Nat.div_pos (by omega) (Nat.two_pow_pos _)
      rw [decide_eq_false h]; exact beq_eq_false_iff_ne.mpr (by omega)
  have HQ : Hid (decide (D < 2 ^ W ∧ C < 2 ^ (r + 1)) = (decide (D < 2 ^ W) && decide (C < 2 ^ (r + 1)))) := by show _ = _; rw [Bool.decide_and]
  have hql : C / 2 ^ (r + 1) ≤ 255 := Nat.le_trans (Nat.div_le_self _ _) (by omega)
  generalize hc2 : C / 2 ^ (r + 1) = q at *
  generalize r + 1 = r1 at *
  clear hc2
  by_cases h64 : W = 64
  · have hd := hW64 h64
    have h64i : ((W : Int) == 64) = true := by rw [h64]; rfl
    rw [HQ.out, decide_eq_true hd, Bool.true_and]
    clear hW64 hqW HZW HQ h64 hd
    go_enter Try.func12, Try.ntmps12
    go_wp2_with (go_at_call 9; refine (HC.out _).mono ?_; rintro e w2 ⟨rfl, hb2⟩)
    all_goals try (apply False.elim; apply undef_bool0; assumption)
    go_ret
    exact ⟨by rw [← HZ.out]; rfl, HB.out⟩
  · have h64i : ((W : Int) == 64) = false := beq_eq_false_iff_ne.mpr (by omega)
    generalize hd2 : D / 2 ^ W = qd at *
    clear hW64 hd2
    rw [HQ.out, ← HZW.out, ← HZ.out]
    clear HQ
    cases hb : ((qd : Int) == 0)
    · go_enter Try.func12, Try.ntmps12
      go_wp2_with (go_at_call 9; refine (HC.out _).mono ?_; rintro e w2 ⟨rfl, hb2⟩)
      go_ret
      exact ⟨rfl, HB.out⟩
    · go_enter Try.func12, Try.ntmps12
      go_wp2_with (go_at_call 9; refine (HC.out _).mono ?_; rintro e w2 ⟨rfl, hb2⟩)
      go_ret
      exact ⟨rfl, HB.out⟩
set_option maxRecDepth 100000 in
theorem refValid_none {x : Int} (h : NoWid x) (D C : Nat) (w : World) : Calls Try.prog 12 #[.int .i64 x, .agg (wdC D C)] w fun e w' => e = .returned (.bool false) ∧ Below w.heap.size w w' := by
  have HC : Hid (∀ w, Calls Try.prog 9 #[.int .i64 x] w fun e w' => e = .returned (.tuple #[.int .i64 0, .int .i64 1]) ∧ w' = w) := fun w => refChecks_no h w
  have HB : Hid (Below w.heap.size w (w.alloc (.cells (wdC D C) 26))) := (Below.refl _ _).alloc (Nat.le_refl _) _
  unfold wdC at *
  go_enter Try.func12, Try.ntmps12
  go_wp2_with (go_at_call 9; refine (HC.out _).mono ?_; rintro e w2 ⟨rfl, hb2⟩)
  all_goals try (apply False.elim; apply undef_bool0; assumption)
  go_ret
  exact ⟨rfl, HB.out⟩
end Go.Proofs.Ytjmaejdkdpiigaa
