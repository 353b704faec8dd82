/- What baseOf, extraOf, Of, Cycles, Number, Known and Class answer. -/
import Derived.Test.YtfecadongbmfhaaOp8
import Derived.Test.YtfecadongbmfhaaOp9
namespace Go.Proofs.Ytfecadongbmfhaa
open Go.RowKit
set_option linter.unusedVariables false

theorem same_below {f : FuncId} {args : Array Value} {v : Value} (h : ∀ w, Calls Try.prog f args w fun e w' => e = .returned v ∧ w' = w) (w : World) : Calls Try.prog f args w fun e w' => e = .returned v ∧ Below w.heap.size w w' := (h w).mono fun e w' ⟨h1, h2⟩ => ⟨h1, by rw [h2]; exact Below.refl _ _⟩
theorem cl_cases (m : Nat) : (clS m = 1 ∨ clS m = 2 ∨ clS m = 3) ∨ clS m = 4 ∨ (¬ (clS m = 1 ∨ clS m = 2 ∨ clS m = 3) ∧ clS m ≠ 4) := by omega
set_option maxRecDepth 100000 in
set_option maxHeartbeats 1600000 in
theorem baseOf_any (m k : Nat) (hm : m ≤ 56) (hk : k ≤ 12) (w : World) : Calls Try.prog 45 #[.agg (inC m k)] w fun e w' => e = .returned (.int .i64 (baS m k : Int)) ∧ Below w.heap.size w w' := by
  have HB := hidD (box_bel w m k 64)
  have HC : Hid (∀ w, Calls Try.prog 49 #[.int .i64 (m : Int)] w fun e w' => e = .returned (.int .i64 (clS m : Int)) ∧ w' = w) := fun w => classOf_any m hm w
  have HO : Hid (∀ w, Calls Try.prog 60 #[.agg #[.int .i64 (m : Int), .int .i64 (k : Int)]] w fun e w' => e = .returned (.int .i64 (otS m k : Int)) ∧ Below w.heap.size w w') := fun w => ofOthers_any m k hm w
  have HT : Hid (∀ w, Calls Try.prog 58 #[.int .i64 (k : Int)] w fun e w' => e = .returned (.int .i64 (toS k : Int)) ∧ Below w.heap.size w w') := fun w => same_below (fun w => toOperand_any k hk w) w
  have HG : Hid ((w.alloc (.cells (inC m k) (64 : TypeId))).heap[w.heap.size]? = some (.cells (inC m k) (64 : TypeId) (0, 0))) := heap_alloc_last _ _
  have hs : w.heap.size < (w.alloc (.cells (inC m k) (64 : TypeId))).heap.size := by simp
  have c0 := in_row HG.out
  have c1 := in_row1 HG.out
  have d0 : ∀ i : BW (w.alloc (.cells (inC m k) (64 : TypeId))), i.v.cell? ⟨w.heap.size, 0, none⟩ = some (.int .i64 (m : Int)) := fun i => (i.cell hs).trans c0
  have d1 : ∀ i : BW (w.alloc (.cells (inC m k) (64 : TypeId))), i.v.cell? ⟨w.heap.size, 1, none⟩ = some (.int .i64 (k : Int)) := fun i => (i.cell hs).trans c1
  clear hs
  rcases cl_cases m with hc | hc | hc
  · have HM : Hid (∀ w, Calls Try.prog 59 #[.int .i64 (clS m : Int), .int .i64 (k : Int)] w fun e w' => e = .returned (.int .i64 (moS (clS m) k : Int)) ∧ Below w.heap.size w w') := fun w => same_below (fun w => moreThanRead_any (clS m) k hc hk w) w
    have HR : Hid (baS m k = toS k + moS (clS m) k) := if_pos hc
    rw [HR.out]
    have h1 := to_le k hk
    have h2 := mo_le (clS m) k
    have hw : IntKind.i64.wrap ((toS k : Int) + (moS (clS m) k : Int)) = ((toS k + moS (clS m) k : Nat) : Int) := by rw [show (toS k : Int) + (moS (clS m) k : Int) = ((toS k + moS (clS m) k : Nat) : Int) by omega]; exact wrap_nat _ (by omega)
    unfold inC at *
    clear HO HR
    generalize toS k + moS (clS m) k = S at *
    generalize moS (clS m) k = N at *
    generalize toS k = O at *
    rcases hc with hc | hc | hc <;> rw [hc] at HC HM <;> clear hc
    all_goals
      go_enter Try.func45, Try.ntmps45
      go_wp2_with (go_at_call 49; refine (HC.out _).mono ?_; rintro e w2 ⟨rfl, rfl⟩)
      refine wp_region_below (by kernel_rfl) (by kernel_rfl) ?_
      repeat (go_big_quiet_step (first | (go_at_call 58; exact Calls.below_of (HT.out _)) | (go_at_call 59; exact Calls.below_of (HM.out _))))
      refine wpQuiet_nil ?_
      intro i
      clear d0 d1 c0 c1
      go_wp2_with fail
      go_ret
      exact ⟨rfl, Below.next HB.out i.below⟩
  · have HR : Hid (baS m k = 2) := by show _ = _; unfold baS; rw [if_neg (by omega), if_pos hc]
    rw [HR.out]
    rw [hc] at HC
    unfold inC at *
    clear HO HR HT hc d0 d1
    go_enter Try.func45, Try.ntmps45
    go_wp2_with (go_at_call 49; refine (HC.out _).mono ?_; rintro e w2 ⟨rfl, rfl⟩)
    go_ret
    exact ⟨rfl, HB.out⟩
  · have HR : Hid (baS m k = otS m k) := by show _ = _; unfold baS; rw [if_neg hc.1, if_neg hc.2]
    rw [HR.out]
    have g1 : ¬ (clS m : Int) = 1 := by omega
    have g2 : ¬ (clS m : Int) = 2 := by omega
    have g3 : ¬ (clS m : Int) = 3 := by omega
    have g4 : ¬ (clS m : Int) = 4 := by omega
    unfold inC at *
    clear HR HT hc d0 d1
    generalize clS m = C at *
    go_enter Try.func45, Try.ntmps45
    go_wp2_with (first | (go_at_call 60; refine (HO.out _).mono ?_; rintro e w3 ⟨rfl, hb3⟩) | (go_at_call 49; refine (HC.out _).mono ?_; rintro e w2 ⟨rfl, rfl⟩))
    go_ret
    exact ⟨rfl, Below.next HB.out hb3⟩
set_option maxRecDepth 100000 in
set_option maxHeartbeats 1600000 in
theorem extraOf_any (m k : Nat) (hm : m ≤ 56) (hk : k ≤ 12) (w : World) : Calls Try.prog 46 #[.agg (inC m k)] w fun e w' => e = .returned (.int .i64 (exS m k : Int)) ∧ Below w.heap.size w w' := by
  have HB := hidD (box_bel w m k 64)
  have HC : Hid (∀ w, Calls Try.prog 49 #[.int .i64 (m : Int)] w fun e w' => e = .returned (.int .i64 (clS m : Int)) ∧ w' = w) := fun w => classOf_any m hm w
  have HT : Hid (∀ w, Calls Try.prog 61 #[.int .i64 (k : Int)] w fun e w' => e = .returned (.bool (crS k)) ∧ w' = w) := fun w => mayCross_any k hk w
  have HG : Hid ((w.alloc (.cells (inC m k) (64 : TypeId))).heap[w.heap.size]? = some (.cells (inC m k) (64 : TypeId) (0, 0))) := heap_alloc_last _ _
  have c0 := in_row HG.out
  have c1 := in_row1 HG.out
  have HX : Hid (exS m k = if clS m = 1 ∧ crS k = true then 1 else 0) := rfl
  generalize exS m k = X at *
  unfold inC at *
  by_cases h1 : clS m = 1
  · rw [h1] at HC
    cases hB : crS k
    · have hX := HX.out
      rw [if_neg (fun h => by rw [hB] at h; exact absurd h.2 (by decide))] at hX
      subst hX
      rw [hB] at HT
      clear HX hB h1
      go_enter Try.func46, Try.ntmps46
      go_wp2_with (first | (go_at_call 61; refine (HT.out _).mono ?_; rintro e w3 ⟨rfl, rfl⟩) | (go_at_call 49; refine (HC.out _).mono ?_; rintro e w2 ⟨rfl, rfl⟩))
      go_ret
      exact ⟨rfl, HB.out⟩
    · have hX := HX.out
      rw [if_pos ⟨h1, hB⟩] at hX
      subst hX
      rw [hB] at HT
      clear HX hB h1
      go_enter Try.func46, Try.ntmps46
      go_wp2_with (first | (go_at_call 61; refine (HT.out _).mono ?_; rintro e w3 ⟨rfl, rfl⟩) | (go_at_call 49; refine (HC.out _).mono ?_; rintro e w2 ⟨rfl, rfl⟩))
      go_ret
      exact ⟨rfl, HB.out⟩
  · have hX := HX.out
    rw [if_neg (fun h => h1 h.1)] at hX
    subst hX
    have h1i : ¬ (clS m : Int) = 1 := by omega
    have h1b : ((clS m : Int) == 1) = false := beq_eq_false_iff_ne.2 h1i
    clear HX h1
    generalize clS m = C at *
    go_enter Try.func46, Try.ntmps46
    go_wp2_with (go_at_call 49; refine (HC.out _).mono ?_; rintro e w2 ⟨rfl, rfl⟩)
    go_ret
    exact ⟨rfl, HB.out⟩
end Go.Proofs.Ytfecadongbmfhaa
