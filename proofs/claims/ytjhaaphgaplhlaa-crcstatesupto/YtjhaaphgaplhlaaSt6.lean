/- The walk of CrcStates over all models. -/
import Derived.Test.YtjhaaphgaplhlaaSt5
namespace Go.Proofs.Ytjhaaphgaplhlaa
open Go.RowKit
set_option linter.unusedVariables false

set_option maxRecDepth 100000 in
theorem write_nil (sl : Value) (w : World) : Calls Try.prog 40 #[.pointer none, sl] w fun e w' => e = .returned (.int .i64 0) ∧ Below w.heap.size w w' := by
  go_enter Try.func40, Try.ntmps40
  go_wp2_with fail
  go_ret
  exact ⟨rfl, Below.refl _ _⟩
set_option maxRecDepth 100000 in
theorem stSum_nil (w : World) : Calls Try.prog 41 #[.pointer none] w fun e w' => e = .returned (.int .u64 0) ∧ Below w.heap.size w w' := by
  go_enter Try.func41, Try.ntmps41
  go_wp2_with fail
  go_ret
  exact ⟨rfl, Below.refl _ _⟩
set_option maxRecDepth 100000 in
theorem len_nil (w : World) : Calls Try.prog 42 #[.pointer none] w fun e w' => e = .returned (.int .u64 0) ∧ Below w.heap.size w w' := by
  go_enter Try.func42, Try.ntmps42
  go_wp2_with fail
  go_ret
  exact ⟨rfl, Below.refl _ _⟩

set_option maxRecDepth 100000 in
set_option maxHeartbeats 1000000 in
theorem states_none (m : Mw) (hm : MwOk m) (hv : ¬ m.Valid) (sl : Value) (w : World) : Calls Try.prog 6 #[m.v, sl] w fun e w' => e = .returned (.bool true) ∧ Below w.heap.size w w' := by
  have HLV := hidD live_any
  have HM := hidD (fun w => mine_any m w)
  have HT := hidD (fun w => theirs_any m w)
  have HN := hidD no_any
  have HV := hidD (fun w => refValid_any m hm false (by simp [hv]) w)
  have HBG := hidD (fun w => begin_none m hm hv w)
  have HWN := hidD write_nil
  have HSN := hidD stSum_nil
  have HLN := hidD len_nil
  have HA := hidD (MwAt.new m w 46)
  have HB0 : Hid (Below w.heap.size w (w.alloc (.cells m.cells 46))) := (Below.refl w.heap.size w).alloc (Nat.le_refl _) _
  have HSZ : Hid (w.heap.size < (w.alloc (.cells m.cells 46)).heap.size) := by show _ < _; simp
  clear hm hv
  obtain ⟨nm, W, P, I, inn, out, X⟩ := m
  simp only [Mw.v, Mw.cells] at *
  go_enter Try.func6, Try.ntmps6
  go_wp2_with (first
    | (go_at_call 22; refine (HM.out _).mono ?_; rintro e w1 ⟨rfl, hb1⟩; have HB1 := hidD (Below.next HB0.out hb1); have HA1 := hidD (HA.out.below hb1 HSZ.out); have HL1 := hidD (Nat.lt_of_lt_of_le HSZ.out hb1.size); clear hb1)
    | (go_at_call 39; refine (HBG.out _).mono ?_; rintro e w2 ⟨rfl, hb2⟩; have HB2 := hidD (Below.next HB1.out hb2); have HA2 := hidD (HA1.out.below hb2 HL1.out); have HL2 := hidD (Nat.lt_of_lt_of_le HL1.out hb2.size); clear hb2))
  have hcl : ∀ i : BW w2, MwAt i.v w.heap.size ⟨nm, W, P, I, inn, out, X⟩ := fun i => HA2.out.below i.below HL2.out
  have k0 := fun i => (hcl i).c0
  have k1 := fun i => (hcl i).c1
  have k2 := fun i => (hcl i).c2
  have k3 := fun i => (hcl i).c3
  have k4 := fun i => (hcl i).c4
  have k5 := fun i => (hcl i).c5
  have k6 := fun i => (hcl i).c6
  simp only at k0 k1 k2 k3 k4 k5 k6
  clear hcl
  refine wp_region_below (by kernel_rfl) (by kernel_rfl) ?_
  repeat (go_big_quiet_step ((first | (go_at_call 27; exact Calls.below_of (HN.out _ _)) | (go_at_call 23; exact Calls.below_of (HT.out _)) | (go_at_call 26; exact Calls.below_of (HV.out _)) | (go_at_call 13; exact Calls.below_of (HLV.out _)))))
  refine wpQuiet_nil ?_
  intro i
  have HWB := hidD (Below.next HB2.out i.below)
  clear k0 k1 k2 k3 k4 k5 k6
  go_wp2_with (first
    | (go_at_call 27; refine (HN.out _ _).mono ?_; rintro e w3 ⟨rfl, hb3⟩; have HB3 := hidD (Below.next HWB.out hb3); clear hb3)
    | (go_at_call 40; refine (HWN.out _ _).mono ?_; rintro e w4 ⟨rfl, hb4⟩; have HB4 := hidD (Below.next (Below.more HB3.out _) hb4); clear hb4)
    | (go_at_call 41; refine (HSN.out _).mono ?_; rintro e w5 ⟨rfl, hb5⟩; have HB5 := hidD (Below.next HB4.out hb5); clear hb5)
    | (go_at_call 42; refine (HLN.out _).mono ?_; rintro e w6 ⟨rfl, hb6⟩; have HB6 := hidD (Below.next HB5.out hb6); clear hb6))
  go_ret
  exact ⟨rfl, HB6.out⟩

theorem states_any (m : Mw) (hm : MwOk m) (L : List (List UInt8)) (hL : L.length ≤ 1048576) (hp : ∀ k, k < L.length → (L.getD k []).length ≤ 1048576) (sl : Value) (w : World) (hs : PcAt w sl L) : Calls Try.prog 6 #[m.v, sl] w fun e w' => e = .returned (.bool true) ∧ Below w.heap.size w w' := by
  by_cases hv : m.Valid
  · have hk := hv.2.2
    rw [hv.v]
    exact states_valid m.md hk L hL hp sl w hs
  · exact states_none m hm hv sl w
end Go.Proofs.Ytjhaaphgaplhlaa
