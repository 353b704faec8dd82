/- What Known, Class, Code and Mnemonics answer. -/
import Derived.Test.YtfecadongbmfhaaOp8
import Derived.Test.YtfecadongbmfhaaOp9
import Derived.Laws.StructEq
namespace Go.Proofs.Ytfecadongbmfhaa
open Go.RowKit
set_option linter.unusedVariables false

/- the first opcode that is a mnemonic with a mode; 256 of none -/
def Mt (f : Nat) (x : Int) (i : Nat) : Prop := (inS i).1 = f ∧ ((inS i).2 : Int) = x
instance (f : Nat) (x : Int) (i : Nat) : Decidable (Mt f x i) := by unfold Mt; infer_instance
def coA (f : Nat) (x : Int) : Nat → Nat
  | 0 => 0
  | n + 1 => if coA f x n < n then coA f x n else if Mt f x n then n else n + 1
def coS (f : Nat) (x : Int) : Nat := coA f x 256
theorem co_spec (f : Nat) (x : Int) : ∀ n, coA f x n ≤ n ∧ (∀ i < coA f x n, ¬ Mt f x i) ∧ (coA f x n < n → Mt f x (coA f x n))
  | 0 => ⟨Nat.le_refl _, fun i h => absurd h (Nat.not_lt_zero _), fun h => absurd h (Nat.lt_irrefl _)⟩
  | n + 1 => by
    obtain ⟨h1, h2, h3⟩ := co_spec f x n
    rw [coA]
    by_cases hA : coA f x n < n
    · rw [if_pos hA]
      exact ⟨by omega, h2, fun _ => h3 hA⟩
    · rw [if_neg hA]
      have he : coA f x n = n := by omega
      rw [he] at h2
      by_cases hm : Mt f x n
      · rw [if_pos hm]
        exact ⟨by omega, h2, fun _ => hm⟩
      · rw [if_neg hm]
        refine ⟨by omega, ?_, fun h => by omega⟩
        intro i hi
        rcases Nat.lt_or_ge i n with h | h
        · exact h2 i h
        · obtain rfl : i = n := by omega
          exact hm
def coV (f : Nat) (x : Int) : Value := if f = 0 ∨ coS f x = 256 then .tuple #[.int .u8 0, .bool false] else .tuple #[.int .u8 (coS f x : Int), .bool true]
set_option maxRecDepth 100000 in
theorem in_eq (a b c d : Int) (w : World) : (binOp .eql 64 (.agg #[.int .i64 a, .int .i64 b]) (.agg #[.int .i64 c, .int .i64 d])).run Try.prog w = .ok (.bool (decide (a = c ∧ b = d))) w := by
  have h1 : Try.prog.underlying 64 = some (.struct (Try.prog.fieldsOf 64)) := by kernel_rfl
  have h2 : Try.prog.stoodInHeld 64 = false := by kernel_rfl
  have h3 : (Try.prog.fieldsOf 64).toList.map (fun f => (f.type, f.offset, f.name)) = [(3, 0, "mnemonic"), (3, 1, "mode")] := by kernel_rfl
  obtain ⟨f1, L1, hf, e1, h4⟩ := List.map_eq_cons_iff.1 h3
  obtain ⟨f2, L2, hf2, e2, h5⟩ := List.map_eq_cons_iff.1 h4
  obtain rfl := List.map_eq_nil_iff.1 h5
  subst hf2
  simp only [Prod.mk.injEq] at e1 e2
  obtain ⟨t1, o1, n1⟩ := e1
  obtain ⟨t2, o2, n2⟩ := e2
  have hp : Try.prog.plainKey 3 = true := by kernel_rfl
  have p0 := fun (x y : Int) (w : World) => run_part_plain (P := Try.prog) (w := w) hp (xs := #[.int .i64 x, .int .i64 y]) (off := 0) (v := .int .i64 x) rfl
  have p1 := fun (x y : Int) (w : World) => run_part_plain (P := Try.prog) (w := w) hp (xs := #[.int .i64 x, .int .i64 y]) (off := 1) (v := .int .i64 y) rfl
  have e0 := fun (x y : Int) (w : World) => run_equalIn_int (P := Try.prog) w 9998 3 .i64 .i64 x y Try.underlying3
  rw [run_eql_struct, show (10000 : Nat) = 9999 + 1 from rfl, run_equalIn_struct w 9999 _ _ _ h1 h2, hf]
  by_cases hac : a = c
  · by_cases hbd : b = d
    · simp [Op.eqFields, n1, n2, t1, t2, o1, o2, p0, p1, e0, hac, hbd]
    · simp [Op.eqFields, n1, n2, t1, t2, o1, o2, p0, p1, e0, hac, hbd]
  · simp [Op.eqFields, n1, n2, t1, t2, o1, o2, p0, p1, e0, hac]

set_option maxRecDepth 100000 in
set_option maxHeartbeats 1600000 in
theorem code_any (s : List UInt8) (hs : s.length ≤ 140737488355328) (x : Int) (w : World) : Calls Try.prog 20 #[.string ⟨s.toArray⟩, .int .i64 x] w fun e w' => e = .returned (coV (fiS s) x) ∧ Below w.heap.size w w' := by
  have HF : Hid (∀ w, Calls Try.prog 48 #[.string ⟨s.toArray⟩] w fun e w' => e = .returned (.int .i64 (fiS s : Int)) ∧ Below w.heap.size w w') := fun w => find_any s hs w
  have HI : Hid (∀ op : Nat, op < 256 → ∀ w, Calls Try.prog 40 #[.int .u8 (op : Int)] w fun e w' => e = .returned (.agg #[.int .i64 ((inS op).1 : Int), .int .i64 ((inS op).2 : Int)]) ∧ Below w.heap.size w w') := fun op ho w => instructionOf_any op ho w
  have hle := fi_le s
  generalize fiS s = f at *
  have HG : Hid (∀ w1 : World, (w1.alloc (.cells #[.int .i64 (f : Int), .int .i64 x] (64 : TypeId))).heap[w1.heap.size]? = some (.cells #[.int .i64 (f : Int), .int .i64 x] (64 : TypeId) (0, 0))) := fun w1 => heap_alloc_last _ _
  have HL : Hid (∀ w1 : World, Below w1.heap.size w1 (w1.alloc (.cells #[.int .i64 (f : Int), .int .i64 x] (64 : TypeId)))) := fun w1 => (Below.refl _ _).alloc (Nat.le_refl _) _
  have HK0 : Hid (∀ (w2 : World) (g : Nat), w2.heap[g]? = some (.cells #[.int .i64 (f : Int), .int .i64 x] (64 : TypeId) (0, 0)) → w2.cell? ⟨g, 0, none⟩ = some (.int .i64 (f : Int))) := fun w2 g h => by rw [cell_of_row _ _ _ _ _ _ h]; rfl
  have HK1 : Hid (∀ (w2 : World) (g : Nat), w2.heap[g]? = some (.cells #[.int .i64 (f : Int), .int .i64 x] (64 : TypeId) (0, 0)) → w2.cell? ⟨g, 1, none⟩ = some (.int .i64 x)) := fun w2 g h => by rw [cell_of_row _ _ _ _ _ _ h]; rfl
  by_cases h0 : f = 0
  · subst h0
    rw [show coV 0 x = .tuple #[.int .u8 0, .bool false] from if_pos (Or.inl rfl)]
    clear HI
    go_enter Try.func20, Try.ntmps20
    go_wp2_with (go_at_call 48; refine (HF.out _).mono ?_; rintro e w1 ⟨rfl, hb1⟩; have c0 := HK0.out _ _ (HG.out w1))
    go_ret2
    exact ⟨rfl, Below.next hb1 (HL.out w1)⟩
  · have h0i : ¬ (f : Int) = 0 := by omega
    obtain ⟨hA, hb, hc⟩ := co_spec f x 256
    rw [show coA f x 256 = coS f x from rfl] at hA hb hc
    have HN := hidD hb
    have HM := hidD hc
    have HV : Hid (coV f x = if coS f x = 256 then .tuple #[.int .u8 0, .bool false] else .tuple #[.int .u8 (coS f x : Int), .bool true]) := by
      show _ = _
      unfold coV
      by_cases h : coS f x = 256
      · rw [if_pos (Or.inr h), if_pos h]
      · rw [if_neg (fun hh => by rcases hh with hh | hh; exact h0 hh; exact h hh), if_neg h]
    clear hb hc
    generalize coS f x = A at *
    generalize coV f x = V at *
    go_enter Try.func20, Try.ntmps20
    go_wp2_with (go_at_call 48; refine (HF.out _).mono ?_; rintro e w1 ⟨rfl, hb1⟩; have c0 := HK0.out _ _ (HG.out w1))
    have HB1 : Hid (Below w.heap.size w (w1.alloc (.cells #[.int .i64 (f : Int), .int .i64 x] (64 : TypeId)))) := Below.next hb1 (HL.out w1)
    have HR1 := hidD (HG.out w1)
    clear c0 hb1 HL HG HF
    generalize w1.heap.size = g at *
    generalize w1.alloc (.cells #[.int .i64 (f : Int), .int .i64 x] (64 : TypeId)) = W1 at *
    go_loopw [7, 15] (fun _ i wr => ∃ k : Nat, k ≤ A ∧ i = .int .i64 k ∧ wr.heap[g]? = some (.cells #[.int .i64 (f : Int), .int .i64 x] (64 : TypeId) (0, 0)) ∧ Below w.heap.size w wr) (fun _ i _ => 256 - (intOf i).toNat)
    case atStart => exact ⟨0, Nat.zero_le _, rfl, HR1.out, HB1.out⟩
    case round =>
      obtain ⟨k, hk, rfl, hrow, hbel⟩ := hrel
      have HRW := hidD hrow
      have HBL := hidD hbel
      clear hrow hbel HR1 HB1
      by_cases hlt : k < 256
      · have hlti : (k : Int) < 256 := by omega
        have HI1 := hidD (HI.out k hlt)
        have hs := row_lt HRW.out
        have d0 : ∀ i : BW wr, i.v.cell? ⟨g, 0, none⟩ = some (.int .i64 (f : Int)) := fun i => (i.cell hs).trans (HK0.out _ _ HRW.out)
        have d1 : ∀ i : BW wr, i.v.cell? ⟨g, 1, none⟩ = some (.int .i64 x) := fun i => (i.cell hs).trans (HK1.out _ _ HRW.out)
        have heq := in_eq ((inS k).1 : Int) ((inS k).2 : Int) (f : Int) x
        have HD : Hid (decide (((inS k).1 : Int) = (f : Int) ∧ ((inS k).2 : Int) = x) = decide (Mt f x k)) := by
          show _ = _
          apply decide_eq_decide.2
          unfold Mt
          exact ⟨fun h => ⟨by omega, h.2⟩, fun h => ⟨by omega, h.2⟩⟩
        rw [HD.out] at heq
        clear HI HD hs
        by_cases hkA : k < A
        · rw [decide_eq_false (HN.out k hkA)] at heq
          generalize (inS k).1 = m1 at *
          generalize (inS k).2 = k1 at *
          go_wp2_with fail
          refine wp_region_below (by kernel_rfl) (by kernel_rfl) ?_
          repeat (go_big_quiet_step ((go_at_call 40; exact Calls.below_of (HI1.out _))))
          refine wpQuiet_nil ?_
          intro i
          have hib := i.below
          clear d0 d1 heq
          go_wp2_with fail
          go_roundw
          case rel => exact ⟨k + 1, by omega, by go_num, (hib.block _ (row_lt HRW.out)).trans HRW.out, Below.next HBL.out hib⟩
          case measure => simp [intOf]; omega
        · obtain rfl : k = A := by omega
          have hV := HV.out
          rw [if_neg (by omega)] at hV
          subst hV
          rw [decide_eq_true (HM.out hlt)] at heq
          generalize (inS k).1 = m1 at *
          generalize (inS k).2 = k1 at *
          clear HV
          go_wp2_with fail
          refine wp_region_below (by kernel_rfl) (by kernel_rfl) ?_
          repeat (go_big_quiet_step ((go_at_call 40; exact Calls.below_of (HI1.out _))))
          refine wpQuiet_nil ?_
          intro i
          have hib := i.below
          clear d0 d1 heq
          go_wp2_with fail
          go_ret2
          exact ⟨rfl, Below.next HBL.out hib⟩
      · have hV := HV.out
        rw [if_pos (by omega)] at hV
        subst hV
        have hk3 : ¬ (k : Int) < 256 := by omega
        clear HV HI
        go_wp2_with fail
        go_ret2
        exact ⟨rfl, HBL.out⟩
end Go.Proofs.Ytfecadongbmfhaa
