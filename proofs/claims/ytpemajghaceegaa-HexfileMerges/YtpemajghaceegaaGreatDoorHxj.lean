/- What the three fits answer: what a record's kind may have. -/
import Derived.Test.YtpemajghaceegaaGreatDoorHxg
namespace Go.Proofs.YtpemajghaceegaaGreatDoor
open Go.RowKit
set_option linter.unusedVariables false

def fitI (k a : Int) (d : List UInt8) : Bool :=
  if k = 0 then true else if k = 1 then decide (a = 0) && decide (d.length = 0) else if k = 3 then decide (a = 0) && decide (d.length = 4) && decide (d.getD 0 0 = 0) && decide (d.getD 1 0 = 0) else false
def fitM (k a : Int) (d : List UInt8) : Bool :=
  if k = 1 then true else if k = 0 then decide (a = 0) else if k = 5 ∨ k = 9 then decide (d.length = 0) else false
def fitO (k a : Int) (d : List UInt8) : Bool :=
  if k = 0 then decide (0 < d.length) else if k = 1 then decide (d.length = 0) else false
theorem may_int (k a : Int) (d : List UInt8) : mayS 1 k a d = (decide (0 ≤ a ∧ a < 65536) && decide (d.length ≤ 255) && fitI k a d) := by
  unfold mayS fitI
  simp only [if_true]
  have e : decide (0 ≤ a ∧ a ≤ 65535 ∧ d.length ≤ 255) = (decide (0 ≤ a ∧ a < 65536) && decide (d.length ≤ 255)) := by
    rw [← Bool.decide_and]; apply decide_eq_decide.2; omega
  rw [e]
  congr 1
  split; rfl
  split; rw [Bool.decide_and]
  split; rw [Bool.decide_and, Bool.decide_and, Bool.decide_and, Bool.and_assoc, Bool.and_assoc]
  rfl
theorem may_mot (k a : Int) (d : List UInt8) : mayS 2 k a d = (decide (0 ≤ a ∧ a < 65536) && decide (d.length ≤ 252) && fitM k a d) := by
  unfold mayS fitM
  rw [if_neg (by decide), if_pos rfl]
  have e : decide (0 ≤ a ∧ a ≤ 65535 ∧ d.length ≤ 255) = (decide (0 ≤ a ∧ a < 65536) && decide (d.length ≤ 255)) := by
    rw [← Bool.decide_and]; apply decide_eq_decide.2; omega
  rw [e]
  by_cases h1 : k = 1
  · rw [if_neg (by omega), if_pos h1, if_pos h1, Bool.and_true, Bool.and_assoc, ← Bool.decide_and]
    congr 1
    apply decide_eq_decide.2; omega
  · by_cases h0 : k = 0
    · rw [if_pos h0, if_neg h1, if_pos h0, Bool.and_assoc, Bool.and_assoc]
      congr 1
      rw [← Bool.decide_and, ← Bool.decide_and]
      apply decide_eq_decide.2; omega
    · rw [if_neg h0, if_neg h1, if_neg h1, if_neg h0]
      split
      · rw [Bool.and_assoc, Bool.and_assoc, ← Bool.decide_and, ← Bool.decide_and, ← Bool.decide_and, ← Bool.decide_and]
        apply decide_eq_decide.2; omega
      · rw [Bool.and_false, Bool.and_false]
theorem may_mos (k a : Int) (d : List UInt8) : mayS 3 k a d = (decide (0 ≤ a ∧ a < 65536) && decide (d.length ≤ 255) && fitO k a d) := by
  unfold mayS fitO
  rw [if_neg (by decide), if_neg (by decide), if_pos rfl]
  have e : decide (0 ≤ a ∧ a ≤ 65535 ∧ d.length ≤ 255) = (decide (0 ≤ a ∧ a < 65536) && decide (d.length ≤ 255)) := by
    rw [← Bool.decide_and]; apply decide_eq_decide.2; omega
  rw [e]
theorem may_none (f k a : Int) (d : List UInt8) (h : ¬ (1 ≤ f ∧ f ≤ 3)) : mayS f k a d = false := by
  unfold mayS
  rw [if_neg (by omega), if_neg (by omega), if_neg (by omega), Bool.and_false]
theorem int_beq (n m : Nat) : ((n : Int) == (m : Int)) = decide (n = m) := by
  by_cases h : n = m
  · rw [decide_eq_true h, h]; exact beq_self_eq_true _
  · rw [decide_eq_false h, beq_eq_false_iff_ne]; omega
theorem u8_beq (c : UInt8) : ((c.toNat : Int) == 0) = decide (c = 0) := by
  by_cases h : c = 0
  · rw [decide_eq_true h, h]; rfl
  · rw [decide_eq_false h, beq_eq_false_iff_ne]
    intro he
    exact h (UInt8.toNat_inj.1 (by show c.toNat = 0; omega))
theorem ret_b {a b : Bool} (h : a = b) : Ending.returned (.bool a) = .returned (.bool b) := by rw [h]
set_option maxRecDepth 100000 in
set_option maxHeartbeats 1600000 in
theorem fitsMos_any (K A : Int) (v : Value) (d : List UInt8) (hd : d.length ≤ 9223372036854775807) (w : World) (h : ByAt w v d) :
    Calls Tryz.prog 74 #[.agg #[.int .i64 K, .int .i64 A, v]] w fun e w' => e = .returned (.bool (fitO K A d)) ∧ Below w.heap.size w w' := by
  obtain ⟨a, cap, rfl⟩ := h.len
  have HAL : Hid (∀ (w : World) o, Below w.heap.size w (w.alloc o)) := fun w o => (Below.refl _ _).alloc (Nat.le_refl _) o
  have HF := hidD (show fitO K A d = if K = 0 then decide (0 < d.length) else if K = 1 then decide (d.length = 0) else false from rfl)
  obtain ⟨N, HN⟩ : ∃ N, Hid (d.length = N) := ⟨_, rfl⟩
  rw [HN.out] at hd HF ⊢
  have HB := hidD (int_beq N 0)
  clear h
  go_enter Tryz.func74, Tryz.ntmps74
  go_wp2_with fail
  all_goals go_ret
  · rename_i h1
    exact ⟨ret_b (by rw [HF.out, if_pos (eq_of_beq h1)]), HAL.out _ _⟩
  · rename_i h0 h1
    have e0 := beq_eq_false_iff_ne.1 h0
    exact ⟨ret_b (by rw [HF.out, if_neg e0, if_pos (eq_of_beq h1)]; exact HB.out), HAL.out _ _⟩
  · rename_i h0 h1
    exact ⟨ret_b (by rw [HF.out, if_neg (beq_eq_false_iff_ne.1 h0), if_neg (beq_eq_false_iff_ne.1 h1)]), HAL.out _ _⟩
set_option maxRecDepth 100000 in
set_option maxHeartbeats 1600000 in
theorem fitsMotorola_any (K A : Int) (v : Value) (d : List UInt8) (hd : d.length ≤ 9223372036854775807) (w : World) (h : ByAt w v d) :
    Calls Tryz.prog 68 #[.agg #[.int .i64 K, .int .i64 A, v]] w fun e w' => e = .returned (.bool (fitM K A d)) ∧ Below w.heap.size w w' := by
  obtain ⟨a, cap, rfl⟩ := h.len
  have HAL : Hid (∀ (w : World) o, Below w.heap.size w (w.alloc o)) := fun w o => (Below.refl _ _).alloc (Nat.le_refl _) o
  have HF := hidD (show fitM K A d = if K = 1 then true else if K = 0 then decide (A = 0) else if K = 5 ∨ K = 9 then decide (d.length = 0) else false from rfl)
  obtain ⟨N, HN⟩ : ∃ N, Hid (d.length = N) := ⟨_, rfl⟩
  rw [HN.out] at hd HF ⊢
  have HB := hidD (int_beq N 0)
  clear h
  by_cases c1 : K = 1
  · have b0 : (K == 1) = true := beq_iff_eq.2 c1
    go_enter Tryz.func68, Tryz.ntmps68
    go_wp2_with fail
    go_ret
    exact ⟨ret_b (by rw [HF.out, if_pos c1]), HAL.out _ _⟩
  · by_cases c0 : K = 0
    · have b0 : (K == 1) = false := beq_eq_false_iff_ne.2 c1
      have b1 : (K == 0) = true := beq_iff_eq.2 c0
      go_enter Tryz.func68, Tryz.ntmps68
      go_wp2_with fail
      go_ret
      exact ⟨ret_b (by rw [HF.out, if_neg c1, if_pos c0]; rfl), HAL.out _ _⟩
    · by_cases c5 : K = 5
      · have b0 : (K == 1) = false := beq_eq_false_iff_ne.2 c1
        have b1 : (K == 0) = false := beq_eq_false_iff_ne.2 c0
        have b2 : (K == 5) = true := beq_iff_eq.2 c5
        go_enter Tryz.func68, Tryz.ntmps68
        go_wp2_with fail
        go_ret
        exact ⟨ret_b (by rw [HF.out, if_neg c1, if_neg c0, if_pos (.inl c5)]; exact HB.out), HAL.out _ _⟩
      · by_cases c9 : K = 9
        · have b0 : (K == 1) = false := beq_eq_false_iff_ne.2 c1
          have b1 : (K == 0) = false := beq_eq_false_iff_ne.2 c0
          have b2 : (K == 5) = false := beq_eq_false_iff_ne.2 c5
          have b3 : (K == 9) = true := beq_iff_eq.2 c9
          go_enter Tryz.func68, Tryz.ntmps68
          go_wp2_with fail
          go_ret
          exact ⟨ret_b (by rw [HF.out, if_neg c1, if_neg c0, if_pos (.inr c9)]; exact HB.out), HAL.out _ _⟩
        · have b0 : (K == 1) = false := beq_eq_false_iff_ne.2 c1
          have b1 : (K == 0) = false := beq_eq_false_iff_ne.2 c0
          have b2 : (K == 5) = false := beq_eq_false_iff_ne.2 c5
          have b3 : (K == 9) = false := beq_eq_false_iff_ne.2 c9
          go_enter Tryz.func68, Tryz.ntmps68
          go_wp2_with fail
          go_ret
          exact ⟨ret_b (by rw [HF.out, if_neg c1, if_neg c0, if_neg (fun h => h.elim c5 c9)]), HAL.out _ _⟩
set_option maxRecDepth 100000 in
set_option maxHeartbeats 1600000 in
theorem fitsIntel_any (K A : Int) (v : Value) (d : List UInt8) (hd : d.length ≤ 9223372036854775807) (w : World) (h : ByAt w v d) :
    Calls Tryz.prog 62 #[.agg #[.int .i64 K, .int .i64 A, v]] w fun e w' => e = .returned (.bool (fitI K A d)) ∧ Below w.heap.size w w' := by
  obtain ⟨a, cap, rfl, h1, h2, h3, h4⟩ := h
  have HAL : Hid (∀ (w : World) o, Below w.heap.size w (w.alloc o)) := fun w o => (Below.refl _ _).alloc (Nat.le_refl _) o
  have HF := hidD (show fitI K A d = if K = 0 then true else if K = 1 then decide (A = 0) && decide (d.length = 0) else if K = 3 then decide (A = 0) && decide (d.length = 4) && decide (d.getD 0 0 = 0) && decide (d.getD 1 0 = 0) else false from rfl)
  obtain ⟨N, HN⟩ : ∃ N, Hid (d.length = N) := ⟨_, rfl⟩
  rw [HN.out] at hd HF h4 h1 ⊢
  have HB0 := hidD (int_beq N 0)
  have HB4 := hidD (int_beq N 4)
  by_cases c0 : K = 0
  · have b0 : (K == 0) = true := beq_iff_eq.2 c0
    go_enter Tryz.func62, Tryz.ntmps62
    go_wp2_with fail
    go_ret
    exact ⟨ret_b (by rw [HF.out, if_pos c0]), HAL.out _ _⟩
  · by_cases c1 : K = 1
    · by_cases ca : A = 0
      · have b0 : (K == 0) = false := beq_eq_false_iff_ne.2 c0
        have b1 : (K == 1) = true := beq_iff_eq.2 c1
        have b2 : (A == 0) = true := beq_iff_eq.2 ca
        go_enter Tryz.func62, Tryz.ntmps62
        go_wp2_with fail
        go_ret
        exact ⟨ret_b (by rw [HF.out, if_neg c0, if_pos c1, decide_eq_true ca, Bool.true_and]; exact HB0.out), HAL.out _ _⟩
      · have b0 : (K == 0) = false := beq_eq_false_iff_ne.2 c0
        have b1 : (K == 1) = true := beq_iff_eq.2 c1
        have b2 : (A == 0) = false := beq_eq_false_iff_ne.2 ca
        go_enter Tryz.func62, Tryz.ntmps62
        go_wp2_with fail
        go_ret
        exact ⟨ret_b (by rw [HF.out, if_neg c0, if_pos c1, decide_eq_false ca, Bool.false_and]), HAL.out _ _⟩
    · by_cases c3 : K = 3
      · by_cases ca : A = 0
        · by_cases h40 : N = 4
          · subst h40
            subst c3
            subst ca
            obtain ⟨g, o, rfl, hg, c0'⟩ := h4 0 (by omega)
            obtain ⟨g', o', e, _, c1'⟩ := h4 1 (by omega)
            cases e
            rw [Nat.add_zero] at c0'
            have HU1 := hidD (u8_beq (d.getD 1 0))
            have HU0 := hidD (u8_beq (d.getD 0 0))
            generalize d.getD 0 0 = x at *
            generalize d.getD 1 0 = y at *
            have hx := x.toNat_lt
            have hy := y.toNat_lt
            have d0 := ((HAL.out w (.cells #[.int .i64 3, .int .i64 0, .slice (some ⟨g, o, none⟩) (4 : Nat) cap] 80)).cell (p := ⟨g, o, none⟩) hg).trans c0'
            have d1 := ((HAL.out w (.cells #[.int .i64 3, .int .i64 0, .slice (some ⟨g, o, none⟩) (4 : Nat) cap] 80)).cell (p := ⟨g, o + 1, none⟩) hg).trans c1'
            clear c0' c1' h4
            by_cases cx : x = 0
            · have bx : ((x.toNat : Int) == 0) = true := by rw [HU0.out, decide_eq_true cx]
              have HCX := hidD cx
              clear cx
              go_enter Tryz.func62, Tryz.ntmps62
              go_wp2_with fail
              go_ret
              exact ⟨ret_b (by rw [HF.out]; have hc := HCX.out; simp only [if_neg c0, if_neg c1, if_true, hc, decide_true, Bool.true_and]; exact HU1.out), HAL.out _ _⟩
            · have bx : ((x.toNat : Int) == 0) = false := by rw [HU0.out, decide_eq_false cx]
              have HCX := hidD cx
              clear cx
              go_enter Tryz.func62, Tryz.ntmps62
              go_wp2_with fail
              go_ret
              exact ⟨ret_b (by rw [HF.out]; have hc := HCX.out; simp only [if_neg c0, if_neg c1, if_true, hc, decide_false, Bool.and_false, Bool.false_and]), HAL.out _ _⟩
          · have bn : ((N : Int) == 4) = false := by rw [beq_eq_false_iff_ne]; omega
            clear h4
            have b0 : (K == 0) = false := beq_eq_false_iff_ne.2 c0
            have b1 : (K == 1) = false := beq_eq_false_iff_ne.2 c1
            have b2 : (K == 3) = true := beq_iff_eq.2 c3
            have b3 : (A == 0) = true := beq_iff_eq.2 ca
            go_enter Tryz.func62, Tryz.ntmps62
            go_wp2_with fail
            go_ret
            exact ⟨ret_b (by rw [HF.out, if_neg c0, if_neg c1, if_pos c3, decide_eq_false h40, Bool.and_false, Bool.false_and, Bool.false_and]), HAL.out _ _⟩
        · have b0 : (K == 0) = false := beq_eq_false_iff_ne.2 c0
          have b1 : (K == 1) = false := beq_eq_false_iff_ne.2 c1
          have b2 : (K == 3) = true := beq_iff_eq.2 c3
          have b3 : (A == 0) = false := beq_eq_false_iff_ne.2 ca
          go_enter Tryz.func62, Tryz.ntmps62
          go_wp2_with fail
          go_ret
          exact ⟨ret_b (by rw [HF.out, if_neg c0, if_neg c1, if_pos c3, decide_eq_false ca, Bool.false_and, Bool.false_and, Bool.false_and]), HAL.out _ _⟩
      · have b0 : (K == 0) = false := beq_eq_false_iff_ne.2 c0
        have b1 : (K == 1) = false := beq_eq_false_iff_ne.2 c1
        have b2 : (K == 3) = false := beq_eq_false_iff_ne.2 c3
        go_enter Tryz.func62, Tryz.ntmps62
        go_wp2_with fail
        go_ret
        exact ⟨ret_b (by rw [HF.out, if_neg c0, if_neg c1, if_neg c3]), HAL.out _ _⟩
end Go.Proofs.YtpemajghaceegaaGreatDoor
