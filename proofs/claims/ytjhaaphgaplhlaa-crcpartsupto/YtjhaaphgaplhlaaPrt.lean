/- The walk of CrcParts: sums of parts combine. -/
import Derived.Test.YtjhaaphgaplhlaaCms
import Derived.Test.YtjhaaphgaplhlaaAfM
namespace Go.Proofs.Ytjhaaphgaplhlaa
open Go.RowKit
set_option linter.unusedVariables false

theorem turn_turn {m : Md} {r : Nat} (hr : r < 2 ^ m.w) : turnS m (turnS m r) = r := by
  unfold turnS; split
  · exact rev_rev hr
  · rfl
theorem turnS_xor (m : Md) (r s : Nat) : turnS m (r ^^^ s) = turnS m r ^^^ turnS m s := turn_xor m r s
/-- P403. -/
theorem comb_sum {m : Md} (hm : MdOk m) (a b : List UInt8) : combS m (sumS m a) (sumS m b) b.length = sumS m (a ++ b) := by
  unfold combS
  have e1 : sumS m a ^^^ m.X = turnS m (regS m a) := by
    show (turnS m (regS m a) ^^^ m.X) ^^^ m.X = _
    rw [Nat.xor_assoc, Nat.xor_self, Nat.xor_zero]
  rw [e1, turn_turn (reg_lt hm a)]
  have e2 : regS m (a ++ b) = regS m b ^^^ noB m.w m.P (8 * b.length) (regS m a ^^^ m.I) := by
    unfold regS
    rw [stream_append, run_append, ← stream_length m.inn b]
    have := run_split m.w m.P m.I (runB m.w m.P m.I (streamOf m.inn a) ^^^ m.I) (streamOf m.inn b)
    rw [← this]
    congr 1
    rw [Nat.xor_comm _ m.I, ← Nat.xor_assoc, Nat.xor_self, Nat.zero_xor]
  show turnS m _ ^^^ (turnS m (regS m b) ^^^ m.X) = turnS m (regS m (a ++ b)) ^^^ m.X
  rw [e2, turnS_xor, ← Nat.xor_assoc, Nat.xor_comm (turnS m (noB _ _ _ _))]

set_option maxRecDepth 100000 in
set_option maxHeartbeats 400000 in
theorem parts_none (m : Mw) (hm : MwOk m) (hv : ¬ m.Valid) (sa sb sc : Value) (w : World) : Calls Try.prog 8 #[m.v, sa, sb, sc] w fun e w' => e = .returned (.bool true) ∧ Below w.heap.size w w' := by
  have HL := hidD live_any
  have HM := hidD (fun w => mine_any m w)
  have HV := hidD (fun w => valid_any m hm false (by simp [hv]) w)
  have HM0 := hidD (MwAt.new m w 46)
  have HSZ : Hid (w.heap.size < (w.alloc (.cells m.cells 46)).heap.size) := by show _ < _; simp
  have HB0 : Hid (Below w.heap.size w (w.alloc (.cells m.cells 46))) := (Below.refl _ _).alloc (Nat.le_refl _) _
  have HMN : Hid (∀ w : World, MwAt (w.alloc (.cells m.cells 35)) w.heap.size m) := fun w => MwAt.new m w 35
  clear hm hv
  obtain ⟨nm, W, P, I, inn, out, X⟩ := m
  simp only [Mw.v, Mw.cells] at *
  go_enter Try.func8, Try.ntmps8
  go_wp2_with (first
    | (go_at_call 13; refine (HL.out _).mono ?_; rintro e w1 ⟨rfl, hb1⟩; obtain ⟨k0, k1, k2, k3, k4, k5, k6⟩ := HM0.out.below hb1 HSZ.out; have HB1 := hidD (Below.next HB0.out hb1); clear hb1)
    | (go_at_call 22; refine (HM.out _).mono ?_; rintro e w2 ⟨rfl, hb2⟩; have HB2 := hidD (Below.next HB1.out hb2); clear hb2; have HX := hidD (HMN.out w2); have HX0 : Hid (∀ o, w2.heap.size < (w2.alloc o).heap.size) := fun o => by simp)
    | (go_at_call 25; refine (HV.out _).mono ?_; rintro e w3 ⟨rfl, hb3⟩; obtain ⟨q0, q1, q2, q3, q4, q5, q6⟩ := HX.out.below hb3 (HX0.out _); have HB3 := hidD (Below.next (Below.more HB2.out _) hb3); clear hb3))
  go_ret
  exact ⟨rfl, HB3.out⟩

set_option maxRecDepth 100000 in
set_option maxHeartbeats 1000000 in
theorem parts_some (m : Md) (hm : MdOk m) (A B C : List UInt8) (hl : A.length + B.length + C.length ≤ 140737488355328) (aa ab ac : Option Addr) (ca cb cc : Nat) (w : World)
    (ha : ByAt w (.slice aa A.length ca) A) (hb : ByAt w (.slice ab B.length cb) B) (hc : ByAt w (.slice ac C.length cc) C) : Calls Try.prog 8 #[m.v, .slice aa A.length ca, .slice ab B.length cb, .slice ac C.length cc] w fun e w' => e = .returned (.bool true) ∧ Below w.heap.size w w' := by
  have HL := hidD live_any
  have HM : Hid (∀ w, Calls Try.prog 22 #[m.v] w fun e w' => e = .returned m.v ∧ Below w.heap.size w w') := fun w => mine_any ⟨m.name, m.w, m.P, m.I, m.inn, m.out, m.X⟩ w
  have HV : Hid (∀ w, Calls Try.prog 25 #[m.v] w fun e w' => e = .returned (.bool true) ∧ Below w.heap.size w w') := fun w => valid_any ⟨m.name, m.w, m.P, m.I, m.inn, m.out, m.X⟩ hm.raw true (by simp [Md.valid m hm]) w
  have HN := hidD no_any
  have HSA : Hid (∀ w', Below w.heap.size w w' → Calls Try.prog 24 #[m.v, .slice aa A.length ca] w' fun e w2 => e = .returned (.tuple #[.int .u64 (sumS m A : Nat), .int .i64 0]) ∧ Below w'.heap.size w' w2) := fun w' h => sum_some m hm _ (by omega) _ w' (ha.below h (Nat.le_refl _))
  have HSB : Hid (∀ w', Below w.heap.size w w' → Calls Try.prog 24 #[m.v, .slice ab B.length cb] w' fun e w2 => e = .returned (.tuple #[.int .u64 (sumS m B : Nat), .int .i64 0]) ∧ Below w'.heap.size w' w2) := fun w' h => sum_some m hm _ (by omega) _ w' (hb.below h (Nat.le_refl _))
  have HSC : Hid (∀ w', Below w.heap.size w w' → Calls Try.prog 24 #[m.v, .slice ac C.length cc] w' fun e w2 => e = .returned (.tuple #[.int .u64 (sumS m C : Nat), .int .i64 0]) ∧ Below w'.heap.size w' w2) := fun w' h => sum_some m hm _ (by omega) _ w' (hc.below h (Nat.le_refl _))
  have HSD : Hid (∀ v w', ByAt w' v (A ++ B ++ C) → Calls Try.prog 24 #[m.v, v] w' fun e w2 => e = .returned (.tuple #[.int .u64 (sumS m (A ++ B ++ C) : Nat), .int .i64 0]) ∧ Below w'.heap.size w' w2) := fun v w' h => sum_some m hm _ (by simp; omega) _ w' h
  have HOWN : Hid (∀ w', Below w.heap.size w w' → Calls Try.prog 21 #[.slice aa A.length ca] w' fun e w2 => ∃ v, e = .returned v ∧ w2.ownsRow w'.heap.size 5 1 v A.length (A.map encB) ∧ Below w'.heap.size w' w2) := fun w' h => own_any A (by omega) _ w' (ha.below h (Nat.le_refl _))
  have HYB : Hid (∀ w', Below w.heap.size w w' → ByAt w' (.slice ab B.length cb) B) := fun w' h => hb.below h (Nat.le_refl _)
  have HYC : Hid (∀ w', Below w.heap.size w w' → ByAt w' (.slice ac C.length cc) C) := fun w' h => hc.below h (Nat.le_refl _)
  have l1 := sum_lt hm A
  have l2 := sum_lt hm B
  have l3 := sum_lt hm C
  have HC1 : Hid (∀ w, Calls Try.prog 37 #[m.v, .int .u64 (sumS m A : Nat), .int .u64 (sumS m B : Nat), .int .u64 (B.length : Int)] w fun e w' => e = .returned (.tuple #[.int .u64 (sumS m (A ++ B) : Nat), .int .i64 0]) ∧ Below w.heap.size w w') := fun w => by rw [← comb_sum hm A B]; exact combine_some m hm _ _ _ l1 l2 (by omega) w
  have HC2 : Hid (∀ w, Calls Try.prog 37 #[m.v, .int .u64 (sumS m (A ++ B) : Nat), .int .u64 (sumS m C : Nat), .int .u64 (C.length : Int)] w fun e w' => e = .returned (.tuple #[.int .u64 (sumS m (A ++ B ++ C) : Nat), .int .i64 0]) ∧ Below w.heap.size w w') := fun w => by rw [← comb_sum hm (A ++ B) C]; exact combine_some m hm _ _ _ (sum_lt hm _) l3 (by omega) w
  have HC3 : Hid (∀ w, Calls Try.prog 37 #[m.v, .int .u64 (sumS m B : Nat), .int .u64 (sumS m C : Nat), .int .u64 (C.length : Int)] w fun e w' => e = .returned (.tuple #[.int .u64 (sumS m (B ++ C) : Nat), .int .i64 0]) ∧ Below w.heap.size w w') := fun w => by rw [← comb_sum hm B C]; exact combine_some m hm _ _ _ l2 l3 (by omega) w
  have HC4 : Hid (∀ w, Calls Try.prog 37 #[m.v, .int .u64 (sumS m A : Nat), .int .u64 (sumS m (B ++ C) : Nat), .int .u64 ((B.length : Int) + C.length)] w fun e w' => e = .returned (.tuple #[.int .u64 (sumS m (A ++ B ++ C) : Nat), .int .i64 0]) ∧ Below w.heap.size w w') := fun w => by
    have h1 := combine_some m hm (sumS m A) (sumS m (B ++ C)) (B ++ C).length l1 (sum_lt hm _) (by simp; omega) w
    rw [comb_sum hm A (B ++ C), ← List.append_assoc, List.length_append, Int.natCast_add] at h1
    exact h1
  have HM0 := hidD (MdAt.new m w 46)
  have HSZ : Hid (w.heap.size < (w.alloc (.cells m.cells 46)).heap.size) := by show _ < _; simp
  have HB0 : Hid (Below w.heap.size w (w.alloc (.cells m.cells 46))) := (Below.refl _ _).alloc (Nat.le_refl _) _
  have HMN : Hid (∀ w : World, MdAt (w.alloc (.cells m.cells 35)) w.heap.size m) := fun w => MdAt.new m w 35
  clear hm ha hb hc l1 l2 l3
  generalize sumS m (A ++ B ++ C) = SABC at *
  generalize sumS m (A ++ B) = SAB at *
  generalize sumS m (B ++ C) = SBC at *
  generalize sumS m A = SA at *
  generalize sumS m B = SB at *
  generalize sumS m C = SC at *
  obtain ⟨nm, ww, P, I, inn, out, X⟩ := m
  simp only [Md.v, Md.cells] at *
  have hl2 : B.length ≤ 140737488355328 := by omega
  have hl3 : C.length ≤ 140737488355328 := by omega
  go_enter Try.func8, Try.ntmps8
  go_wp2_with (first
    | (go_at_call 13; refine (HL.out _).mono ?_; rintro e w1 ⟨rfl, hb1⟩; obtain ⟨k0, k1, k2, k3, k4, k5, k6⟩ := HM0.out.below hb1 HSZ.out; have HB1 := hidD (Below.next HB0.out hb1); clear hb1)
    | (go_at_call 22; refine (HM.out _).mono ?_; rintro e w2 ⟨rfl, hb2⟩; have HB2 := hidD (Below.next HB1.out hb2); clear hb2 k0 k1 k2 k3 k4 k5 k6; have HX := hidD (HMN.out w2); have HX0 : Hid (∀ o, w2.heap.size < (w2.alloc o).heap.size) := fun o => by simp)
    | (go_at_call 25; refine (HV.out _).mono ?_; rintro e w3 ⟨rfl, hb3⟩; obtain ⟨k0, k1, k2, k3, k4, k5, k6⟩ := HX.out.below hb3 (HX0.out _); have HX3 := hidD (HX.out.below hb3 (HX0.out _)); have HG := hidD (Nat.lt_of_lt_of_le (HX0.out _) hb3.size); have HB3 := hidD (Below.next (Below.more HB2.out _) hb3); clear hb3)
    | (go_at_call 24; refine (HSA.out _ HB3.out).mono ?_; rintro e w4 ⟨rfl, hb4⟩; clear k0 k1 k2 k3 k4 k5 k6; obtain ⟨k0, k1, k2, k3, k4, k5, k6⟩ := HX3.out.below hb4 HG.out; have HQ4 := hidD hb4; have HB4 := hidD (Below.next HB3.out hb4); clear hb4 HSA)
    | (go_at_call 24; refine (HSB.out _ HB4.out).mono ?_; rintro e w5 ⟨rfl, hb5⟩; clear k0 k1 k2 k3 k4 k5 k6; have HQ5 := hidD (Below.next HQ4.out hb5); obtain ⟨k0, k1, k2, k3, k4, k5, k6⟩ := HX3.out.below HQ5.out HG.out; have HB5 := hidD (Below.next HB4.out hb5); clear hb5 HSB)
    | (go_at_call 24; refine (HSC.out _ HB5.out).mono ?_; rintro e w6 ⟨rfl, hb6⟩; clear k0 k1 k2 k3 k4 k5 k6; have HQ6 := hidD (Below.next HQ5.out hb6); have HB6 := hidD (Below.next HB5.out hb6); clear hb6 HSC)
    | (go_at_call 21; refine (HOWN.out _ HB6.out).mono ?_; rintro e w7 ⟨v7, rfl, hown7, hb7⟩; have HO7 := hidD hown7; have HQ7 := hidD (Below.next HQ6.out hb7); have HR7 := hidD hb7; have HB7 := hidD (Below.next HB6.out hb7); have hs7 := hb7.size; clear hb7 hown7)
    | (at_builtin; refine wpList_append_by rfl _ _ rfl w6.heap.size v7 A.length (A.map encB) rfl HO7.out (.slice ab B.length cb) B rfl (HYB.out _ HB7.out) (by omega) hs7 ?_; intro v8 w8 hown8 hg8; have hr8 := row_grown HO7.out HR7.out hg8 hs7; have HO8 := hidD hown8; have HR8 := hidD hr8; have HB8 := hidD (Below.next HB6.out hr8); have hs8 := hr8.size; clear hown8 hg8 hr8 HO7)
    | (at_builtin; refine wpList_append_by rfl _ _ rfl w6.heap.size v8 (A.length + B.length) (A.map encB ++ B.map encB) rfl HO8.out (.slice ac C.length cc) C rfl (HYC.out _ HB8.out) (by omega) hs8 ?_; intro v9 w9 hown9 hg9; have hr9 := row_grown HO8.out HR8.out hg9 hs8; have HQ9 := hidD (Below.next HQ6.out hr9); obtain ⟨k0, k1, k2, k3, k4, k5, k6⟩ := HX3.out.below HQ9.out HG.out; have HY9 : Hid (ByAt w9 v9 (A ++ B ++ C)) := (row_by (base := w6.heap.size) (e := 5) (by simpa [Nat.add_assoc] using hown9)); have HB9 := hidD (Below.next HB6.out hr9); clear hown9 hg9 hr9 HO8)
    | (go_at_call 24; refine (HSD.out _ _ HY9.out).mono ?_; rintro e wa ⟨rfl, hba⟩; clear k0 k1 k2 k3 k4 k5 k6; have HQa := hidD (Below.next HQ9.out hba); obtain ⟨k0, k1, k2, k3, k4, k5, k6⟩ := HX3.out.below HQa.out HG.out; have HBa := hidD (Below.next HB9.out hba); clear hba HSD)
    | (go_at_call 37; refine (HC1.out _).mono ?_; rintro e wb ⟨rfl, hbb⟩; clear k0 k1 k2 k3 k4 k5 k6; have HQb := hidD (Below.next HQa.out hbb); obtain ⟨k0, k1, k2, k3, k4, k5, k6⟩ := HX3.out.below HQb.out HG.out; have HBb := hidD (Below.next HBa.out hbb); clear hbb HC1)
    | (go_at_call 37; refine (HC2.out _).mono ?_; rintro e wc ⟨rfl, hbc⟩; clear k0 k1 k2 k3 k4 k5 k6; have HQc := hidD (Below.next HQb.out hbc); obtain ⟨k0, k1, k2, k3, k4, k5, k6⟩ := HX3.out.below HQc.out HG.out; have HBc := hidD (Below.next HBb.out hbc); clear hbc HC2)
    | (go_at_call 37; refine (HC3.out _).mono ?_; rintro e wd ⟨rfl, hbd⟩; clear k0 k1 k2 k3 k4 k5 k6; have HQd := hidD (Below.next HQc.out hbd); obtain ⟨k0, k1, k2, k3, k4, k5, k6⟩ := HX3.out.below HQd.out HG.out; have HBd := hidD (Below.next HBc.out hbd); clear hbd HC3)
    | (go_at_call 37; refine (HC4.out _).mono ?_; rintro e we ⟨rfl, hbe⟩; clear k0 k1 k2 k3 k4 k5 k6; have HBe := hidD (Below.next HBd.out hbe); clear hbe HC4)
    | (go_at_call 27; refine (HN.out _ _).mono ?_; rintro e wf ⟨rfl, hbf⟩; have HBe := hidD (Below.next HBe.out hbf); clear hbf))
  go_ret
  exact ⟨rfl, HBe.out⟩

theorem parts_any (m : Mw) (hm : MwOk m) (A B C : List UInt8) (hl : A.length + B.length + C.length ≤ 140737488355328) (aa ab ac : Option Addr) (ca cb cc : Nat) (w : World)
    (ha : ByAt w (.slice aa A.length ca) A) (hb : ByAt w (.slice ab B.length cb) B) (hc : ByAt w (.slice ac C.length cc) C) : Calls Try.prog 8 #[m.v, .slice aa A.length ca, .slice ab B.length cb, .slice ac C.length cc] w fun e w' => e = .returned (.bool true) ∧ Below w.heap.size w w' := by
  by_cases hv : m.Valid
  · rw [hv.v]; exact parts_some m.md hv.2.2 A B C hl aa ab ac ca cb cc w ha hb hc
  · exact parts_none m hm hv _ _ _ w
end Go.Proofs.Ytjhaaphgaplhlaa
