/- What Of, Cycles, Number, Known and Class answer. -/
import Derived.Test.YtfecadongbmfhaaOpA
namespace Go.Proofs.Ytfecadongbmfhaa
open Go.RowKit
set_option linter.unusedVariables false

/- what Of tells -/
def ofV (op : Nat) : Value := .tuple #[.string ⟨(nmS (inS op).1).toArray⟩, .int .i64 ((inS op).2 : Int), .bool (!((inS op).1 == 0))]
def cyV (op : Nat) : Value := if (inS op).1 = 0 then .tuple #[.int .i64 0, .int .i64 0, .bool false] else .tuple #[.int .i64 (baS (inS op).1 (inS op).2 : Int), .int .i64 (exS (inS op).1 (inS op).2 : Int), .bool true]
set_option maxRecDepth 100000 in
set_option maxHeartbeats 1600000 in
theorem of_any (op : Nat) (ho : op < 256) (w : World) : Calls Try.prog 14 #[.int .u8 (op : Int)] w fun e w' => e = .returned (ofV op) ∧ Below w.heap.size w w' := by
  obtain ⟨hm, hk⟩ := in_lt op ho
  have HI : Hid (∀ w, Calls Try.prog 40 #[.int .u8 (op : Int)] w fun e w' => e = .returned (.agg (inC (inS op).1 (inS op).2)) ∧ Below w.heap.size w w') := fun w => instructionOf_any op ho w
  have HN : Hid (∀ w, Calls Try.prog 41 #[.int .i64 ((inS op).1 : Int)] w fun e w' => e = .returned (.string ⟨(nmS (inS op).1).toArray⟩) ∧ Below w.heap.size w w') := fun w => same_below (fun w => nameOf_any _ hm w) w
  unfold ofV
  generalize hnm : (⟨(nmS (inS op).1).toArray⟩ : ByteArray) = NM at *
  clear hnm
  generalize (inS op).1 = m at *
  generalize (inS op).2 = k at *
  have HG : Hid (∀ w1 : World, (w1.alloc (.cells #[.int .i64 (m : Int), .int .i64 (k : Int)] (64 : TypeId))).heap[w1.heap.size]? = some (.cells (inC m k) (64 : TypeId) (0, 0))) := fun w1 => heap_alloc_last _ _
  have HS : Hid (∀ w1 : World, w1.heap.size < (w1.alloc (.cells #[.int .i64 (m : Int), .int .i64 (k : Int)] (64 : TypeId))).heap.size) := fun w1 => by simp
  have HL : Hid (∀ w1 : World, Below w1.heap.size w1 (w1.alloc (.cells #[.int .i64 (m : Int), .int .i64 (k : Int)] (64 : TypeId)))) := fun w1 => (Below.refl _ _).alloc (Nat.le_refl _) _
  have HQ : Hid (decide (¬ (m : Int) = 0) = !(m == 0)) := by
    show _ = _
    by_cases h : m = 0
    · subst h; rfl
    · have : ¬ (m : Int) = 0 := by omega
      rw [decide_eq_true this, beq_eq_false_iff_ne.2 h]; rfl
  unfold inC at *
  by_cases h0 : m = 0
  · subst h0
    go_enter Try.func14, Try.ntmps14
    go_wp2_with (go_at_call 40; refine (HI.out _).mono ?_; rintro e w1 ⟨rfl, hb1⟩)
    have hs := HS.out w1
    have d0 : ∀ i : BW (w1.alloc (.cells #[.int .i64 ((0 : Nat) : Int), .int .i64 (k : Int)] (64 : TypeId))), i.v.cell? ⟨w1.heap.size, 0, none⟩ = some (.int .i64 ((0 : Nat) : Int)) := fun i => (i.cell hs).trans (in_row (HG.out w1))
    have d1 : ∀ i : BW (w1.alloc (.cells #[.int .i64 ((0 : Nat) : Int), .int .i64 (k : Int)] (64 : TypeId))), i.v.cell? ⟨w1.heap.size, 1, none⟩ = some (.int .i64 (k : Int)) := fun i => (i.cell hs).trans (in_row1 (HG.out w1))
    clear hs
    refine wp_region_below (by kernel_rfl) (by kernel_rfl) ?_
    repeat (go_big_quiet_step ((go_at_call 41; exact Calls.below_of (HN.out _))))
    refine wpQuiet_nil ?_
    intro i
    clear d0 d1
    go_wp2_with fail
    refine bodyPost_ret (v := .tuple #[.string NM, .int .i64 (k : Int), .bool false]) (by simp [results, Try.results14, go_sem]) rfl ?_
    exact ⟨rfl, Below.next (Below.next hb1 (HL.out w1)) i.below⟩
  · have h0i : ¬ (m : Int) = 0 := by omega
    have h0b : ((m : Int) == 0) = false := beq_eq_false_iff_ne.2 h0i
    rw [beq_eq_false_iff_ne.2 h0]
    go_enter Try.func14, Try.ntmps14
    go_wp2_with (go_at_call 40; refine (HI.out _).mono ?_; rintro e w1 ⟨rfl, hb1⟩)
    have hs := HS.out w1
    have d0 : ∀ i : BW (w1.alloc (.cells #[.int .i64 (m : Int), .int .i64 (k : Int)] (64 : TypeId))), i.v.cell? ⟨w1.heap.size, 0, none⟩ = some (.int .i64 (m : Int)) := fun i => (i.cell hs).trans (in_row (HG.out w1))
    have d1 : ∀ i : BW (w1.alloc (.cells #[.int .i64 (m : Int), .int .i64 (k : Int)] (64 : TypeId))), i.v.cell? ⟨w1.heap.size, 1, none⟩ = some (.int .i64 (k : Int)) := fun i => (i.cell hs).trans (in_row1 (HG.out w1))
    clear hs
    refine wp_region_below (by kernel_rfl) (by kernel_rfl) ?_
    repeat (go_big_quiet_step ((go_at_call 41; exact Calls.below_of (HN.out _))))
    refine wpQuiet_nil ?_
    intro i
    clear d0 d1
    go_wp2_with fail
    refine bodyPost_ret (v := .tuple #[.string NM, .int .i64 (k : Int), .bool true]) (by simp [results, Try.results14, go_sem, h0]) rfl ?_
    exact ⟨rfl, Below.next (Below.next hb1 (HL.out w1)) i.below⟩
set_option maxRecDepth 100000 in
set_option maxHeartbeats 1600000 in
theorem cycles_any (op : Nat) (ho : op < 256) (w : World) : Calls Try.prog 16 #[.int .u8 (op : Int)] w fun e w' => e = .returned (cyV op) ∧ Below w.heap.size w w' := by
  obtain ⟨hm, hk⟩ := in_lt op ho
  have HI : Hid (∀ w, Calls Try.prog 40 #[.int .u8 (op : Int)] w fun e w' => e = .returned (.agg (inC (inS op).1 (inS op).2)) ∧ Below w.heap.size w w') := fun w => instructionOf_any op ho w
  have HA : Hid (∀ w, Calls Try.prog 45 #[.agg (inC (inS op).1 (inS op).2)] w fun e w' => e = .returned (.int .i64 (baS (inS op).1 (inS op).2 : Int)) ∧ Below w.heap.size w w') := fun w => baseOf_any _ _ hm hk w
  have HE : Hid (∀ w, Calls Try.prog 46 #[.agg (inC (inS op).1 (inS op).2)] w fun e w' => e = .returned (.int .i64 (exS (inS op).1 (inS op).2 : Int)) ∧ Below w.heap.size w w') := fun w => extraOf_any _ _ hm hk w
  have HV : Hid (cyV op = if (inS op).1 = 0 then .tuple #[.int .i64 0, .int .i64 0, .bool false] else .tuple #[.int .i64 (baS (inS op).1 (inS op).2 : Int), .int .i64 (exS (inS op).1 (inS op).2 : Int), .bool true]) := rfl
  generalize cyV op = V at *
  generalize baS (inS op).1 (inS op).2 = A at *
  generalize exS (inS op).1 (inS op).2 = E at *
  generalize (inS op).1 = m at *
  generalize (inS op).2 = k at *
  have HG : Hid (∀ w1 : World, (w1.alloc (.cells #[.int .i64 (m : Int), .int .i64 (k : Int)] (64 : TypeId))).heap[w1.heap.size]? = some (.cells (inC m k) (64 : TypeId) (0, 0))) := fun w1 => heap_alloc_last _ _
  have HS : Hid (∀ w1 : World, w1.heap.size < (w1.alloc (.cells #[.int .i64 (m : Int), .int .i64 (k : Int)] (64 : TypeId))).heap.size) := fun w1 => by simp
  have HL : Hid (∀ w1 : World, Below w1.heap.size w1 (w1.alloc (.cells #[.int .i64 (m : Int), .int .i64 (k : Int)] (64 : TypeId)))) := fun w1 => (Below.refl _ _).alloc (Nat.le_refl _) _
  unfold inC at *
  by_cases h0 : m = 0
  · have hV := HV.out
    rw [if_pos h0] at hV
    subst hV
    subst h0
    clear HV HA HE
    go_enter Try.func16, Try.ntmps16
    go_wp2_with (go_at_call 40; refine (HI.out _).mono ?_; rintro e w1 ⟨rfl, hb1⟩; have c0 := in_row (HG.out w1))
    refine bodyPost_ret (v := .tuple #[.int .i64 0, .int .i64 0, .bool false]) (by simp [results, Try.results16, go_sem]) rfl ?_
    exact ⟨rfl, Below.next hb1 (HL.out w1)⟩
  · have hV := HV.out
    rw [if_neg h0] at hV
    subst hV
    have h0i : ¬ (m : Int) = 0 := by omega
    clear HV
    go_enter Try.func16, Try.ntmps16
    go_wp2_with (go_at_call 40; refine (HI.out _).mono ?_; rintro e w1 ⟨rfl, hb1⟩; have c0 := in_row (HG.out w1))
    have hs := HS.out w1
    have d0 : ∀ i : BW (w1.alloc (.cells #[.int .i64 (m : Int), .int .i64 (k : Int)] (64 : TypeId))), i.v.cell? ⟨w1.heap.size, 0, none⟩ = some (.int .i64 (m : Int)) := fun i => (i.cell hs).trans (in_row (HG.out w1))
    have d1 : ∀ i : BW (w1.alloc (.cells #[.int .i64 (m : Int), .int .i64 (k : Int)] (64 : TypeId))), i.v.cell? ⟨w1.heap.size, 1, none⟩ = some (.int .i64 (k : Int)) := fun i => (i.cell hs).trans (in_row1 (HG.out w1))
    clear hs c0
    refine wp_region_below (by kernel_rfl) (by kernel_rfl) ?_
    repeat (go_big_quiet_step (first | (go_at_call 46; exact Calls.below_of (HE.out _)) | (go_at_call 45; exact Calls.below_of (HA.out _))))
    refine wpQuiet_nil ?_
    intro i
    clear d0 d1
    go_wp2_with fail
    refine bodyPost_ret (v := .tuple #[.int .i64 (A : Int), .int .i64 (E : Int), .bool true]) (by simp [results, Try.results16, go_sem]) rfl ?_
    exact ⟨rfl, Below.next (Below.next hb1 (HL.out w1)) i.below⟩
/- Number -/
def nuV (f : Nat) : Value := if f = 0 then .tuple #[.int .i64 0, .bool false] else .tuple #[.int .i64 ((f - 1 : Nat) : Int), .bool true]
set_option maxRecDepth 100000 in
theorem number_any (s : List UInt8) (hs : s.length ≤ 140737488355328) (w : World) : Calls Try.prog 18 #[.string ⟨s.toArray⟩] w fun e w' => e = .returned (nuV (fiS s)) ∧ Below w.heap.size w w' := by
  have HF : Hid (∀ w, Calls Try.prog 48 #[.string ⟨s.toArray⟩] w fun e w' => e = .returned (.int .i64 (fiS s : Int)) ∧ Below w.heap.size w w') := fun w => find_any s hs w
  have hle := fi_le s
  generalize fiS s = f at *
  by_cases h0 : f = 0
  · subst h0
    go_enter Try.func18, Try.ntmps18
    go_wp2_with (go_at_call 48; refine (HF.out _).mono ?_; rintro e w1 ⟨rfl, hb1⟩)
    go_ret2
    exact ⟨rfl, hb1⟩
  · have HV : Hid (nuV f = .tuple #[.int .i64 ((f - 1 : Nat) : Int), .bool true]) := if_neg h0
    rw [HV.out]
    have h0i : ¬ (f : Int) = 0 := by omega
    have h1 : (f : Int) - 1 = ((f - 1 : Nat) : Int) := by omega
    have h2 : f - 1 < 56 := by omega
    clear HV
    generalize f - 1 = j at *
    go_enter Try.func18, Try.ntmps18
    go_wp2_with (go_at_call 48; refine (HF.out _).mono ?_; rintro e w1 ⟨rfl, hb1⟩)
    go_ret2
    exact ⟨rfl, hb1⟩
end Go.Proofs.Ytfecadongbmfhaa
