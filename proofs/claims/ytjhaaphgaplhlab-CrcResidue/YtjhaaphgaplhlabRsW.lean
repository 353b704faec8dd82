/- The walk of CrcResidue. -/
import Derived.Test.YtjhaaphgaplhlabRsM
import Derived.Test.YtjhaaphgaplhlabBst
namespace Go.Proofs.Ytjhaaphgaplhlab
open Go.RowKit
set_option linter.unusedVariables false

set_option maxRecDepth 100000 in
set_option maxHeartbeats 400000 in
theorem resLaw_errs (m : Mw) (hm : MwOk m) (z : Int) (hz : z ≠ 0) (ha : ∀ sl w, Calls Try.prog 12 #[m.v, sl] w fun e w' => e = .returned (.tuple #[.slice none 0 0, .int .i64 z]) ∧ Below w.heap.size w w') (sl : Value) (at' : Int) (t : Nat) (w : World) : Calls Try.prog 4 #[m.v, sl, .int .i64 at', .int .u8 t] w fun e w' => e = .returned (.bool true) ∧ Below w.heap.size w w' := by
  have HL := hidD live_any
  have HM := hidD (fun w => mine_any m w)
  have HA := hidD ha
  have HR := hidD (fun w => residue_none m hm z hz ha w)
  have HN := hidD no_any
  have HM0 := hidD (MwAt.new m w 24)
  have HSZ : Hid (w.heap.size < (w.alloc (.cells m.cells 24)).heap.size) := by show _ < _; simp
  have HB0 : Hid (Below w.heap.size w (w.alloc (.cells m.cells 24))) := (Below.refl _ _).alloc (Nat.le_refl _) _
  have HMN : Hid (∀ w : World, MwAt (w.alloc (.cells m.cells 27)) w.heap.size m) := fun w => MwAt.new m w 27
  have hzi : ¬ z = 0 := hz
  clear hm ha hz
  obtain ⟨nm, W, P, I, inn, out, X⟩ := m
  simp only [Mw.v, Mw.cells] at *
  go_enter Try.func4, Try.ntmps4
  go_wp2_with (first
    | (go_at_call 6; refine (HL.out _).mono ?_; rintro e w1 ⟨rfl, hb1⟩; obtain ⟨k0, k1, k2, k3, k4, k5, k6⟩ := HM0.out.below hb1 HSZ.out; have HB1 := hidD (Below.next HB0.out hb1); clear hb1)
    | (go_at_call 7; refine (HM.out _).mono ?_; rintro e w2 ⟨rfl, hb2⟩; have HB2 := hidD (Below.next HB1.out hb2); clear hb2; have HX := hidD (HMN.out w2); have HX0 : Hid (∀ o, w2.heap.size < (w2.alloc o).heap.size) := fun o => by simp)
    | (go_at_call 12; refine (HA.out _ _).mono ?_; rintro e w3 ⟨rfl, hb3⟩; obtain ⟨q0, q1, q2, q3, q4, q5, q6⟩ := HX.out.below hb3 (HX0.out _); have HB3 := hidD (Below.next (Below.more HB2.out _) hb3); clear hb3)
    | (go_at_call 13; refine (HR.out _).mono ?_; rintro e w4 ⟨rfl, hb4⟩; have HB4 := hidD (Below.next HB3.out hb4); clear hb4)
    | (go_at_call 11; refine (HN.out _ _).mono ?_; rintro e w5 ⟨rfl, hb5⟩; have HB5 := hidD (Below.next HB4.out hb5); clear hb5))
  go_ret
  exact ⟨rfl, HB5.out⟩

set_option maxRecDepth 100000 in
set_option maxHeartbeats 1000000 in
theorem resLaw_even (m : Md) (hm : MdOk m) (h8 : m.w % 8 = 0) (hio : m.inn = m.out) (bs : List UInt8) (hl : bs.length ≤ 140737488355200) (sl : Value) (at' : Int) (hat0 : -9223372036854775808 ≤ at') (hat1 : at' ≤ 9223372036854775807) (t : Nat) (ht : t < 256) (hc : m.P.testBit 0 = false) (w : World) (hs : ByAt w sl bs) : Calls Try.prog 4 #[m.v, sl, .int .i64 at', .int .u8 t] w fun e w' => e = .returned (.bool true) ∧ Below w.heap.size w w' := by
  have HL := hidD live_any
  have HM : Hid (∀ w, Calls Try.prog 7 #[m.v] w fun e w' => e = .returned m.v ∧ Below w.heap.size w w') := fun w => mine_any ⟨m.name, m.w, m.P, m.I, m.inn, m.out, m.X⟩ w
  have HN := hidD no_any
  have HAP : Hid (∀ w', Below w.heap.size w w' → Calls Try.prog 12 #[m.v, sl] w' fun e w2 => ∃ g, e = .returned (.tuple #[.slice (some ⟨g, 0, none⟩) (bs.length + m.w / 8) (bs.length + m.w / 8), .int .i64 0]) ∧ w2.ownsRow w'.heap.size 5 1 (.slice (some ⟨g, 0, none⟩) (bs.length + m.w / 8) (bs.length + m.w / 8)) (bs.length + m.w / 8) ((appS m bs).map encB) ∧ Below w'.heap.size w' w2) := fun w' h => append_some m hm h8 hio bs (by omega) sl w' (hs.below h (Nat.le_refl _))
  have HRE := hidD (fun w => residue_some m hm h8 hio w)
  have hhi := hm.hi
  have hlo := hm.lo
  have HSM : Hid (∀ (cs : List UInt8) (v : Value) (w' : World), cs.length = bs.length + m.w / 8 → ByAt w' v cs → Calls Try.prog 10 #[m.v, v] w' fun e w2 => e = .returned (.tuple #[.int .u64 (sumS m cs : Nat), .int .i64 0]) ∧ Below w'.heap.size w' w2) := fun cs v w' hc h => sum_some m hm cs (by omega) _ w' h
  have hp := pow64 hm.hi
  have hX := hm.X
  have hsl := sum_lt hm (appS m bs)
  have x1 : bits .xor .u64 (sumS m (appS m bs) : Int) (m.X : Int) = ((resS m : Nat) : Int) := by rw [u64_xor_nat _ _ (by omega) (by omega), residue_sum hm h8 hio bs]
  have HLN := hidD (appS_length m bs)
  have hPa := and1_u64 (Nat.lt_of_lt_of_le hm.P hp)
  rw [hc] at hPa
  simp only [Bool.toNat_false] at hPa
  clear hc
  have HM0 := hidD (MdAt.new m w 24)
  have HSZ : Hid (w.heap.size < (w.alloc (.cells m.cells 24)).heap.size) := by show _ < _; simp
  have HB0 : Hid (Below w.heap.size w (w.alloc (.cells m.cells 24))) := (Below.refl _ _).alloc (Nat.le_refl _) _
  have HMN : Hid (∀ w : World, MdAt (w.alloc (.cells m.cells 27)) w.heap.size m) := fun w => MdAt.new m w 27
  have HSM1 : Hid (∀ v w', ByAt w' v (appS m bs) → Calls Try.prog 10 #[m.v, v] w' fun e w2 => e = .returned (.tuple #[.int .u64 (sumS m (appS m bs) : Nat), .int .i64 0]) ∧ Below w'.heap.size w' w2) := fun v w' h => HSM.out _ v w' HLN.out h
  have hcnt : 0 < m.w / 8 := by omega
  have hN47 : bs.length + m.w / 8 ≤ 140737488355300 := by omega
  have HRB : Hid (∀ w0 v base, World.ownsRow w0 base 5 1 v (bs.length + m.w / 8) ((appS m bs).map encB) → ByAt w0 v (appS m bs)) := fun w0 v base h => row_by (base := base) (e := 5) (by rw [appS_length]; exact h)
  generalize hAP : appS m bs = AP at *
  clear hAP hs hp hX hsl hio h8
  have hNp : 0 < bs.length + m.w / 8 := by omega
  generalize bs.length + m.w / 8 = N at *
  generalize sumS m AP = S1 at *
  generalize resS m = R at *
  have hNi : ¬ ((N : Int) = 0) := by omega
  have hNn : ¬ N = 0 := by omega
  have hNb : ((N : Int) == 0) = false := by simpa using hNn
  clear hm hhi hlo hcnt hl
  obtain ⟨nm, ww, P, I, inn, out, X⟩ := m
  simp only [Md.v, Md.cells] at *
  go_enter Try.func4, Try.ntmps4
  go_wp2_with (first
    | (go_at_call 6; refine (HL.out _).mono ?_; rintro e w1 ⟨rfl, hb1⟩; obtain ⟨k0, k1, k2, k3, k4, k5, k6⟩ := HM0.out.below hb1 HSZ.out; have HB1 := hidD (Below.next HB0.out hb1); clear hb1)
    | (go_at_call 7; refine (HM.out _).mono ?_; rintro e w2 ⟨rfl, hb2⟩; have HB2 := hidD (Below.next HB1.out hb2); clear hb2 k0 k1 k2 k3 k4 k5 k6; have HX := hidD (HMN.out w2); have HX0 : Hid (∀ o, w2.heap.size < (w2.alloc o).heap.size) := fun o => by simp)
    | (go_at_call 12; refine (HAP.out _ (Below.more HB2.out _)).mono ?_; rintro e w3 ⟨g, rfl, hown3, hb3⟩; obtain ⟨k0, k1, k2, k3, k4, k5, k6⟩ := HX.out.below hb3 (HX0.out _); have HX3 := hidD (HX.out.below hb3 (HX0.out _)); have HG := hidD (Nat.lt_of_lt_of_le (HX0.out _) hb3.size); have HB3 := hidD (Below.next (Below.more HB2.out _) hb3); have HO3 := hidD hown3; have HGX : Hid (w2.heap.size < g) := (by obtain ⟨g', c', e1, e2, _⟩ := row_shapeC hown3 (by omega); cases e1; exact Nat.lt_of_lt_of_le (HX0.out _) e2); clear hb3 hown3)
    | (go_at_call 13; refine (HRE.out _).mono ?_; rintro e w4 ⟨rfl, hb4⟩; clear k0 k1 k2 k3 k4 k5 k6; obtain ⟨k0, k1, k2, k3, k4, k5, k6⟩ := HX3.out.below hb4 HG.out; have HQ4 := hidD hb4; have HB4 := hidD (Below.next HB3.out hb4); clear hb4)
    | (go_at_call 11; refine (HN.out _ _).mono ?_; rintro e w5 ⟨rfl, hb5⟩; clear k0 k1 k2 k3 k4 k5 k6; have HQ5 := hidD (Below.next HQ4.out hb5); obtain ⟨k0, k1, k2, k3, k4, k5, k6⟩ := HX3.out.below HQ5.out HG.out; have HB5 := hidD (Below.next HB4.out hb5); have HY5 := hidD (HRB.out _ _ _ (row_below HO3.out HQ5.out)); clear hb5 HQ4)
    | (go_at_call 10; refine (HSM1.out _ _ HY5.out).mono ?_; rintro e w6 ⟨rfl, hb6⟩; clear k0 k1 k2 k3 k4 k5 k6; have HQ6 := hidD (Below.next HQ5.out hb6); obtain ⟨k0, k1, k2, k3, k4, k5, k6⟩ := HX3.out.below HQ6.out HG.out; have HB6 := hidD (Below.next HB5.out hb6); clear hb6 HSM1)
    | (go_at_call 11; have HQ6x := HQ6.out; refine (HN.out _ _).mono ?_; rintro e w7 ⟨rfl, hb7⟩; clear k0 k1 k2 k3 k4 k5 k6; have HQ7 := hidD (Below.next HQ6x hb7); clear HQ6 HQ6x; have HQ6 := HQ7; clear HQ7; obtain ⟨k0, k1, k2, k3, k4, k5, k6⟩ := HX3.out.below HQ6.out HG.out; have HB7 := hidD (Below.next HB6.out hb7); clear HB6; have HB6 := HB7; clear HB7 hb7))
  go_ret
  exact ⟨rfl, HB6.out⟩

set_option maxRecDepth 100000 in
set_option maxHeartbeats 1000000 in
theorem resLaw_zero (m : Md) (hm : MdOk m) (h8 : m.w % 8 = 0) (hio : m.inn = m.out) (bs : List UInt8) (hl : bs.length ≤ 140737488355200) (sl : Value) (at' : Int) (hat0 : -9223372036854775808 ≤ at') (hat1 : at' ≤ 9223372036854775807) (hc : m.P.testBit 0 = true) (w : World) (hs : ByAt w sl bs) : Calls Try.prog 4 #[m.v, sl, .int .i64 at', .int .u8 0] w fun e w' => e = .returned (.bool true) ∧ Below w.heap.size w w' := by
  have HL := hidD live_any
  have HM : Hid (∀ w, Calls Try.prog 7 #[m.v] w fun e w' => e = .returned m.v ∧ Below w.heap.size w w') := fun w => mine_any ⟨m.name, m.w, m.P, m.I, m.inn, m.out, m.X⟩ w
  have HN := hidD no_any
  have HAP : Hid (∀ w', Below w.heap.size w w' → Calls Try.prog 12 #[m.v, sl] w' fun e w2 => ∃ g, e = .returned (.tuple #[.slice (some ⟨g, 0, none⟩) (bs.length + m.w / 8) (bs.length + m.w / 8), .int .i64 0]) ∧ w2.ownsRow w'.heap.size 5 1 (.slice (some ⟨g, 0, none⟩) (bs.length + m.w / 8) (bs.length + m.w / 8)) (bs.length + m.w / 8) ((appS m bs).map encB) ∧ Below w'.heap.size w' w2) := fun w' h => append_some m hm h8 hio bs (by omega) sl w' (hs.below h (Nat.le_refl _))
  have HRE := hidD (fun w => residue_some m hm h8 hio w)
  have hhi := hm.hi
  have hlo := hm.lo
  have HSM : Hid (∀ (cs : List UInt8) (v : Value) (w' : World), cs.length = bs.length + m.w / 8 → ByAt w' v cs → Calls Try.prog 10 #[m.v, v] w' fun e w2 => e = .returned (.tuple #[.int .u64 (sumS m cs : Nat), .int .i64 0]) ∧ Below w'.heap.size w' w2) := fun cs v w' hc h => sum_some m hm cs (by omega) _ w' h
  have hp := pow64 hm.hi
  have hX := hm.X
  have hsl := sum_lt hm (appS m bs)
  have x1 : bits .xor .u64 (sumS m (appS m bs) : Int) (m.X : Int) = ((resS m : Nat) : Int) := by rw [u64_xor_nat _ _ (by omega) (by omega), residue_sum hm h8 hio bs]
  have HLN := hidD (appS_length m bs)
  have hPa := and1_u64 (Nat.lt_of_lt_of_le hm.P hp)
  rw [hc] at hPa
  simp only [Bool.toNat_true] at hPa
  clear hc
  have HM0 := hidD (MdAt.new m w 24)
  have HSZ : Hid (w.heap.size < (w.alloc (.cells m.cells 24)).heap.size) := by show _ < _; simp
  have HB0 : Hid (Below w.heap.size w (w.alloc (.cells m.cells 24))) := (Below.refl _ _).alloc (Nat.le_refl _) _
  have HMN : Hid (∀ w : World, MdAt (w.alloc (.cells m.cells 27)) w.heap.size m) := fun w => MdAt.new m w 27
  have HSM1 : Hid (∀ v w', ByAt w' v (appS m bs) → Calls Try.prog 10 #[m.v, v] w' fun e w2 => e = .returned (.tuple #[.int .u64 (sumS m (appS m bs) : Nat), .int .i64 0]) ∧ Below w'.heap.size w' w2) := fun v w' h => HSM.out _ v w' HLN.out h
  have hcnt : 0 < m.w / 8 := by omega
  have hN47 : bs.length + m.w / 8 ≤ 140737488355300 := by omega
  have HRB : Hid (∀ w0 v base, World.ownsRow w0 base 5 1 v (bs.length + m.w / 8) ((appS m bs).map encB) → ByAt w0 v (appS m bs)) := fun w0 v base h => row_by (base := base) (e := 5) (by rw [appS_length]; exact h)
  generalize hAP : appS m bs = AP at *
  clear hAP hs hp hX hsl hio h8
  have hNp : 0 < bs.length + m.w / 8 := by omega
  generalize bs.length + m.w / 8 = N at *
  generalize sumS m AP = S1 at *
  generalize resS m = R at *
  have hNi : ¬ ((N : Int) = 0) := by omega
  have hNn : ¬ N = 0 := by omega
  have hNb : ((N : Int) == 0) = false := by simpa using hNn
  clear hm hhi hlo hcnt hl
  obtain ⟨nm, ww, P, I, inn, out, X⟩ := m
  simp only [Md.v, Md.cells] at *
  go_enter Try.func4, Try.ntmps4
  go_wp2_with (first
    | (go_at_call 6; refine (HL.out _).mono ?_; rintro e w1 ⟨rfl, hb1⟩; obtain ⟨k0, k1, k2, k3, k4, k5, k6⟩ := HM0.out.below hb1 HSZ.out; have HB1 := hidD (Below.next HB0.out hb1); clear hb1)
    | (go_at_call 7; refine (HM.out _).mono ?_; rintro e w2 ⟨rfl, hb2⟩; have HB2 := hidD (Below.next HB1.out hb2); clear hb2 k0 k1 k2 k3 k4 k5 k6; have HX := hidD (HMN.out w2); have HX0 : Hid (∀ o, w2.heap.size < (w2.alloc o).heap.size) := fun o => by simp)
    | (go_at_call 12; refine (HAP.out _ (Below.more HB2.out _)).mono ?_; rintro e w3 ⟨g, rfl, hown3, hb3⟩; obtain ⟨k0, k1, k2, k3, k4, k5, k6⟩ := HX.out.below hb3 (HX0.out _); have HX3 := hidD (HX.out.below hb3 (HX0.out _)); have HG := hidD (Nat.lt_of_lt_of_le (HX0.out _) hb3.size); have HB3 := hidD (Below.next (Below.more HB2.out _) hb3); have HO3 := hidD hown3; have HGX : Hid (w2.heap.size < g) := (by obtain ⟨g', c', e1, e2, _⟩ := row_shapeC hown3 (by omega); cases e1; exact Nat.lt_of_lt_of_le (HX0.out _) e2); clear hb3 hown3)
    | (go_at_call 13; refine (HRE.out _).mono ?_; rintro e w4 ⟨rfl, hb4⟩; clear k0 k1 k2 k3 k4 k5 k6; obtain ⟨k0, k1, k2, k3, k4, k5, k6⟩ := HX3.out.below hb4 HG.out; have HQ4 := hidD hb4; have HB4 := hidD (Below.next HB3.out hb4); clear hb4)
    | (go_at_call 11; refine (HN.out _ _).mono ?_; rintro e w5 ⟨rfl, hb5⟩; clear k0 k1 k2 k3 k4 k5 k6; have HQ5 := hidD (Below.next HQ4.out hb5); obtain ⟨k0, k1, k2, k3, k4, k5, k6⟩ := HX3.out.below HQ5.out HG.out; have HB5 := hidD (Below.next HB4.out hb5); have HY5 := hidD (HRB.out _ _ _ (row_below HO3.out HQ5.out)); clear hb5 HQ4)
    | (go_at_call 10; refine (HSM1.out _ _ HY5.out).mono ?_; rintro e w6 ⟨rfl, hb6⟩; clear k0 k1 k2 k3 k4 k5 k6; have HQ6 := hidD (Below.next HQ5.out hb6); obtain ⟨k0, k1, k2, k3, k4, k5, k6⟩ := HX3.out.below HQ6.out HG.out; have HB6 := hidD (Below.next HB5.out hb6); clear hb6 HSM1)
    | (go_at_call 11; have HQ6x := HQ6.out; refine (HN.out _ _).mono ?_; rintro e w7 ⟨rfl, hb7⟩; clear k0 k1 k2 k3 k4 k5 k6; have HQ7 := hidD (Below.next HQ6x hb7); clear HQ6 HQ6x; have HQ6 := HQ7; clear HQ7; obtain ⟨k0, k1, k2, k3, k4, k5, k6⟩ := HX3.out.below HQ6.out HG.out; have HB7 := hidD (Below.next HB6.out hb7); clear HB6; have HB6 := HB7; clear HB7 hb7))
  go_ret
  exact ⟨rfl, HB6.out⟩

set_option maxRecDepth 100000 in
set_option maxHeartbeats 1000000 in
theorem resLaw_neg (m : Md) (hm : MdOk m) (h8 : m.w % 8 = 0) (hio : m.inn = m.out) (bs : List UInt8) (hl : bs.length ≤ 140737488355200) (sl : Value) (at' : Int) (hat0 : -9223372036854775808 ≤ at') (hat1 : at' ≤ 9223372036854775807) (t : Nat) (ht : t < 256) (hc : m.P.testBit 0 = true) (ht0 : t ≠ 0) (hneg : at' < 0) (w : World) (hs : ByAt w sl bs) : Calls Try.prog 4 #[m.v, sl, .int .i64 at', .int .u8 t] w fun e w' => e = .returned (.bool true) ∧ Below w.heap.size w w' := by
  have HL := hidD live_any
  have HM : Hid (∀ w, Calls Try.prog 7 #[m.v] w fun e w' => e = .returned m.v ∧ Below w.heap.size w w') := fun w => mine_any ⟨m.name, m.w, m.P, m.I, m.inn, m.out, m.X⟩ w
  have HN := hidD no_any
  have HAP : Hid (∀ w', Below w.heap.size w w' → Calls Try.prog 12 #[m.v, sl] w' fun e w2 => ∃ g, e = .returned (.tuple #[.slice (some ⟨g, 0, none⟩) (bs.length + m.w / 8) (bs.length + m.w / 8), .int .i64 0]) ∧ w2.ownsRow w'.heap.size 5 1 (.slice (some ⟨g, 0, none⟩) (bs.length + m.w / 8) (bs.length + m.w / 8)) (bs.length + m.w / 8) ((appS m bs).map encB) ∧ Below w'.heap.size w' w2) := fun w' h => append_some m hm h8 hio bs (by omega) sl w' (hs.below h (Nat.le_refl _))
  have HRE := hidD (fun w => residue_some m hm h8 hio w)
  have hhi := hm.hi
  have hlo := hm.lo
  have HSM : Hid (∀ (cs : List UInt8) (v : Value) (w' : World), cs.length = bs.length + m.w / 8 → ByAt w' v cs → Calls Try.prog 10 #[m.v, v] w' fun e w2 => e = .returned (.tuple #[.int .u64 (sumS m cs : Nat), .int .i64 0]) ∧ Below w'.heap.size w' w2) := fun cs v w' hc h => sum_some m hm cs (by omega) _ w' h
  have hp := pow64 hm.hi
  have hX := hm.X
  have hsl := sum_lt hm (appS m bs)
  have x1 : bits .xor .u64 (sumS m (appS m bs) : Int) (m.X : Int) = ((resS m : Nat) : Int) := by rw [u64_xor_nat _ _ (by omega) (by omega), residue_sum hm h8 hio bs]
  have HLN := hidD (appS_length m bs)
  have hPa := and1_u64 (Nat.lt_of_lt_of_le hm.P hp)
  rw [hc] at hPa
  simp only [Bool.toNat_true] at hPa
  have hNpos : 0 < (appS m bs).length := by rw [appS_length]; omega
  obtain ⟨q, hq⟩ : ∃ q : Nat, q = (-(at' + 1)).toNat % (appS m bs).length := ⟨_, rfl⟩
  have hql : q < (appS m bs).length := by rw [hq]; exact Nat.mod_lt _ hNpos
  have hrem : (-(at' + 1)).tmod ((appS m bs).length : Int) = (q : Int) := by
    obtain ⟨z, hz⟩ : ∃ z : Nat, -(at' + 1) = (z : Int) := ⟨(-(at' + 1)).toNat, by omega⟩
    rw [Int.tmod_eq_emod_of_nonneg (by omega), hq, hz, Int.toNat_natCast, Int.natCast_emod]
  have hxt : ((appS m bs).getD q 0).toNat ^^^ t < 256 := xor_lt (w := 8) ((appS m bs).getD q 0).toNat_lt ht
  have x2 : bits .xor .u8 (((appS m bs).getD q 0).toNat : Int) (t : Int) = ((((appS m bs).getD q 0).toNat ^^^ t : Nat) : Int) := u8_xor_nat _ _ ((appS m bs).getD q 0).toNat_lt ht
  obtain ⟨CS, hCS⟩ : ∃ CS, CS = (appS m bs).set q (UInt8.ofNat (((appS m bs).getD q 0).toNat ^^^ t)) := ⟨_, rfl⟩
  have hne := byte_turned hm hc (show 8 ≤ m.w by omega) (appS m bs) q t hql ht ht0
  rw [← hCS] at hne
  have hsl2 := sum_lt hm CS
  have HLC : Hid (CS.length = bs.length + m.w / 8) := by rw [hCS, List.length_set, appS_length]; exact rfl
  have HCM : Hid (CS.map encB = ((appS m bs).map encB).set q (.int .u8 ((((appS m bs).getD q 0).toNat ^^^ t : Nat) : Int))) := by
    show _ = _
    rw [hCS, List.map_set]
    congr 1
    unfold encB
    rw [UInt8.toNat_ofNat', Nat.mod_eq_of_lt hxt]
  have x3 : bits .xor .u64 (sumS m CS : Int) (m.X : Int) = ((sumS m CS ^^^ m.X : Nat) : Int) := u64_xor_nat _ _ (by omega) (by omega)
  have hne2 : sumS m CS ^^^ m.X ≠ resS m := by
    rw [← residue_sum hm h8 hio bs]
    intro h
    exact hne (xor_cancel h)
  have hnei : ¬ ((sumS m CS ^^^ m.X : Nat) : Int) = ((resS m : Nat) : Int) := by omega
  have HSM2 := hidD (fun v w' h => HSM.out CS v w' HLC.out h)
  have HCA : Hid (∀ w0 g base, World.ownsRow w0 base 5 1 (.slice (some ⟨g, 0, none⟩) (bs.length + m.w / 8) (bs.length + m.w / 8)) (bs.length + m.w / 8) ((appS m bs).map encB) → w0.cell? ⟨g, q, none⟩ = some (.int .u8 (((appS m bs).getD q 0).toNat : Int))) := fun w0 g base h => by
    rw [h.cellAt q (by rw [← appS_length]; omega), List.getElem?_map, List.getElem?_eq_getElem hql, List.getD_eq_getElem?_getD, List.getElem?_eq_getElem hql]; rfl
  have HRC : Hid (∀ w0 v base, World.ownsRow w0 base 5 1 v (bs.length + m.w / 8) (CS.map encB) → ByAt w0 v CS) := fun w0 v base h => row_by (base := base) (e := 5) (by rw [HLC.out]; exact h)
  rw [appS_length] at hrem hql hNpos
  have ht0b : ((t : Int) == 0) = false := by simpa using ht0
  have ht0i : ¬ (t : Int) = 0 := by omega
  have hqi : (q : Int) < ((bs.length + m.w / 8 : Nat) : Int) := by omega
  clear hc hxt hne hne2 hCS hsl2 hq hNpos
  have HM0 := hidD (MdAt.new m w 24)
  have HSZ : Hid (w.heap.size < (w.alloc (.cells m.cells 24)).heap.size) := by show _ < _; simp
  have HB0 : Hid (Below w.heap.size w (w.alloc (.cells m.cells 24))) := (Below.refl _ _).alloc (Nat.le_refl _) _
  have HMN : Hid (∀ w : World, MdAt (w.alloc (.cells m.cells 27)) w.heap.size m) := fun w => MdAt.new m w 27
  have HSM1 : Hid (∀ v w', ByAt w' v (appS m bs) → Calls Try.prog 10 #[m.v, v] w' fun e w2 => e = .returned (.tuple #[.int .u64 (sumS m (appS m bs) : Nat), .int .i64 0]) ∧ Below w'.heap.size w' w2) := fun v w' h => HSM.out _ v w' HLN.out h
  have hcnt : 0 < m.w / 8 := by omega
  have hN47 : bs.length + m.w / 8 ≤ 140737488355300 := by omega
  have HRB : Hid (∀ w0 v base, World.ownsRow w0 base 5 1 v (bs.length + m.w / 8) ((appS m bs).map encB) → ByAt w0 v (appS m bs)) := fun w0 v base h => row_by (base := base) (e := 5) (by rw [appS_length]; exact h)
  generalize hAP : appS m bs = AP at *
  clear hAP hs hp hX hsl hio h8
  have hNp : 0 < bs.length + m.w / 8 := by omega
  generalize bs.length + m.w / 8 = N at *
  generalize sumS m AP = S1 at *
  generalize resS m = R at *
  have hNi : ¬ ((N : Int) = 0) := by omega
  have hNn : ¬ N = 0 := by omega
  have hNb : ((N : Int) == 0) = false := by simpa using hNn
  generalize sumS m CS ^^^ m.X = SX at *
  generalize sumS m CS = S2 at *
  generalize (AP.getD q 0).toNat ^^^ t = xt at *
  generalize (AP.getD q 0).toNat = xv at *
  clear hm hhi hlo hcnt hl
  obtain ⟨nm, ww, P, I, inn, out, X⟩ := m
  simp only [Md.v, Md.cells] at *
  go_enter Try.func4, Try.ntmps4
  go_wp2_with (first
    | (go_at_call 6; refine (HL.out _).mono ?_; rintro e w1 ⟨rfl, hb1⟩; obtain ⟨k0, k1, k2, k3, k4, k5, k6⟩ := HM0.out.below hb1 HSZ.out; have HB1 := hidD (Below.next HB0.out hb1); clear hb1)
    | (go_at_call 7; refine (HM.out _).mono ?_; rintro e w2 ⟨rfl, hb2⟩; have HB2 := hidD (Below.next HB1.out hb2); clear hb2 k0 k1 k2 k3 k4 k5 k6; have HX := hidD (HMN.out w2); have HX0 : Hid (∀ o, w2.heap.size < (w2.alloc o).heap.size) := fun o => by simp)
    | (go_at_call 12; refine (HAP.out _ (Below.more HB2.out _)).mono ?_; rintro e w3 ⟨g, rfl, hown3, hb3⟩; obtain ⟨k0, k1, k2, k3, k4, k5, k6⟩ := HX.out.below hb3 (HX0.out _); have HX3 := hidD (HX.out.below hb3 (HX0.out _)); have HG := hidD (Nat.lt_of_lt_of_le (HX0.out _) hb3.size); have HB3 := hidD (Below.next (Below.more HB2.out _) hb3); have HO3 := hidD hown3; have HGX : Hid (w2.heap.size < g) := (by obtain ⟨g', c', e1, e2, _⟩ := row_shapeC hown3 (by omega); cases e1; exact Nat.lt_of_lt_of_le (HX0.out _) e2); clear hb3 hown3)
    | (go_at_call 13; refine (HRE.out _).mono ?_; rintro e w4 ⟨rfl, hb4⟩; clear k0 k1 k2 k3 k4 k5 k6; obtain ⟨k0, k1, k2, k3, k4, k5, k6⟩ := HX3.out.below hb4 HG.out; have HQ4 := hidD hb4; have HB4 := hidD (Below.next HB3.out hb4); clear hb4)
    | (go_at_call 11; refine (HN.out _ _).mono ?_; rintro e w5 ⟨rfl, hb5⟩; clear k0 k1 k2 k3 k4 k5 k6; have HQ5 := hidD (Below.next HQ4.out hb5); obtain ⟨k0, k1, k2, k3, k4, k5, k6⟩ := HX3.out.below HQ5.out HG.out; have HB5 := hidD (Below.next HB4.out hb5); have HY5 := hidD (HRB.out _ _ _ (row_below HO3.out HQ5.out)); clear hb5 HQ4)
    | (go_at_call 10; refine (HSM1.out _ _ HY5.out).mono ?_; rintro e w6 ⟨rfl, hb6⟩; clear k0 k1 k2 k3 k4 k5 k6; have HQ6 := hidD (Below.next HQ5.out hb6); obtain ⟨k0, k1, k2, k3, k4, k5, k6⟩ := HX3.out.below HQ6.out HG.out; have HB6 := hidD (Below.next HB5.out hb6); clear hb6 HSM1)
    | (go_at_call 11; have HQ6x := HQ6.out; refine (HN.out _ _).mono ?_; rintro e w7 ⟨rfl, hb7⟩; clear k0 k1 k2 k3 k4 k5 k6; have HQ7 := hidD (Below.next HQ6x hb7); clear HQ6 HQ6x; have HQ6 := HQ7; clear HQ7; obtain ⟨k0, k1, k2, k3, k4, k5, k6⟩ := HX3.out.below HQ6.out HG.out; have HB7 := hidD (Below.next HB6.out hb7); clear HB6; have HB6 := HB7; clear HB7 hb7))
  have HO7 := hidD (row_below HO3.out HQ6.out)
  have hcv := HCA.out _ _ _ HO7.out
  have hfr := HO7.out.frozenAt q
  have HST := hidD (HO7.out.stored q (.int .u8 (xt : Int)))
  go_region
  have HB8 : Hid (Below w.heap.size w (w7.setCell ⟨g, q, none⟩ (.int .u8 (xt : Int))).drew) := ((HB6.out).setCell (p := ⟨g, q, none⟩) (by have := HGX.out; have := HB2.out.size; show w.heap.size ≤ g; omega) _).drew
  have hX8 := (HX3.out.below HQ6.out HG.out).below (((Below.refl (w2.heap.size + 1) w7).setCell (p := ⟨g, q, none⟩) HGX.out (.int .u8 (xt : Int))).drew) (Nat.lt_succ_self _)
  have HY8 : Hid (ByAt (w7.setCell ⟨g, q, none⟩ (.int .u8 (xt : Int))).drew (.slice (some ⟨g, 0, none⟩) N N) CS) := HRC.out _ _ _ (by rw [HCM.out]; exact row_below HST.out.1 ((Below.refl _ _).drew))
  clear k0 k1 k2 k3 k4 k5 k6 hcv hfr
  have HX8 := hidD hX8
  obtain ⟨k0, k1, k2, k3, k4, k5, k6⟩ := hX8
  simp only at k0 k1 k2 k3 k4 k5 k6
  have HG8 : Hid (w2.heap.size < (w7.setCell ⟨g, q, none⟩ (.int .u8 (xt : Int))).drew.heap.size) := Nat.lt_of_lt_of_le HG.out (Nat.le_trans HQ6.out.size (((Below.refl (w2.heap.size + 1) w7).setCell (p := ⟨g, q, none⟩) HGX.out (.int .u8 (xt : Int))).drew).size)
  generalize (w7.setCell ⟨g, q, none⟩ (.int .u8 (xt : Int))).drew = w8 at *
  go_wp2_with (first
    | (go_at_call 10; refine (HSM2.out _ _ HY8.out).mono ?_; rintro e w9 ⟨rfl, hb9⟩; clear k0 k1 k2 k3 k4 k5 k6; obtain ⟨k0, k1, k2, k3, k4, k5, k6⟩ := HX8.out.below hb9 HG8.out; have HQ9 := hidD hb9; have HB9 := hidD (Below.next HB8.out hb9); clear hb9)
    | (go_at_call 11; refine (HN.out _ _).mono ?_; rintro e wa ⟨rfl, hba⟩; clear k0 k1 k2 k3 k4 k5 k6; obtain ⟨k0, k1, k2, k3, k4, k5, k6⟩ := HX8.out.below (Below.next HQ9.out hba) HG8.out; have HBa := hidD (Below.next HB9.out hba); clear hba))
  go_ret
  have hneb : ((SX : Int) != (R : Int)) = true := by rw [bne_iff_ne]; exact hnei
  exact ⟨by show Ending.returned (Value.bool ((SX : Int) != (R : Int))) = _; rw [hneb], HBa.out⟩

set_option maxRecDepth 100000 in
set_option maxHeartbeats 1000000 in
theorem resLaw_pos (m : Md) (hm : MdOk m) (h8 : m.w % 8 = 0) (hio : m.inn = m.out) (bs : List UInt8) (hl : bs.length ≤ 140737488355200) (sl : Value) (at' : Int) (hat0 : -9223372036854775808 ≤ at') (hat1 : at' ≤ 9223372036854775807) (t : Nat) (ht : t < 256) (hc : m.P.testBit 0 = true) (ht0 : t ≠ 0) (hneg : 0 ≤ at') (w : World) (hs : ByAt w sl bs) : Calls Try.prog 4 #[m.v, sl, .int .i64 at', .int .u8 t] w fun e w' => e = .returned (.bool true) ∧ Below w.heap.size w w' := by
  have HL := hidD live_any
  have HM : Hid (∀ w, Calls Try.prog 7 #[m.v] w fun e w' => e = .returned m.v ∧ Below w.heap.size w w') := fun w => mine_any ⟨m.name, m.w, m.P, m.I, m.inn, m.out, m.X⟩ w
  have HN := hidD no_any
  have HAP : Hid (∀ w', Below w.heap.size w w' → Calls Try.prog 12 #[m.v, sl] w' fun e w2 => ∃ g, e = .returned (.tuple #[.slice (some ⟨g, 0, none⟩) (bs.length + m.w / 8) (bs.length + m.w / 8), .int .i64 0]) ∧ w2.ownsRow w'.heap.size 5 1 (.slice (some ⟨g, 0, none⟩) (bs.length + m.w / 8) (bs.length + m.w / 8)) (bs.length + m.w / 8) ((appS m bs).map encB) ∧ Below w'.heap.size w' w2) := fun w' h => append_some m hm h8 hio bs (by omega) sl w' (hs.below h (Nat.le_refl _))
  have HRE := hidD (fun w => residue_some m hm h8 hio w)
  have hhi := hm.hi
  have hlo := hm.lo
  have HSM : Hid (∀ (cs : List UInt8) (v : Value) (w' : World), cs.length = bs.length + m.w / 8 → ByAt w' v cs → Calls Try.prog 10 #[m.v, v] w' fun e w2 => e = .returned (.tuple #[.int .u64 (sumS m cs : Nat), .int .i64 0]) ∧ Below w'.heap.size w' w2) := fun cs v w' hc h => sum_some m hm cs (by omega) _ w' h
  have hp := pow64 hm.hi
  have hX := hm.X
  have hsl := sum_lt hm (appS m bs)
  have x1 : bits .xor .u64 (sumS m (appS m bs) : Int) (m.X : Int) = ((resS m : Nat) : Int) := by rw [u64_xor_nat _ _ (by omega) (by omega), residue_sum hm h8 hio bs]
  have HLN := hidD (appS_length m bs)
  have hPa := and1_u64 (Nat.lt_of_lt_of_le hm.P hp)
  rw [hc] at hPa
  simp only [Bool.toNat_true] at hPa
  have hNpos : 0 < (appS m bs).length := by rw [appS_length]; omega
  obtain ⟨q, hq⟩ : ∃ q : Nat, q = (at').toNat % (appS m bs).length := ⟨_, rfl⟩
  have hql : q < (appS m bs).length := by rw [hq]; exact Nat.mod_lt _ hNpos
  have hrem : (at').tmod ((appS m bs).length : Int) = (q : Int) := by
    obtain ⟨z, hz⟩ : ∃ z : Nat, at' = (z : Int) := ⟨(at').toNat, by omega⟩
    rw [Int.tmod_eq_emod_of_nonneg (by omega), hq, hz, Int.toNat_natCast, Int.natCast_emod]
  have hxt : ((appS m bs).getD q 0).toNat ^^^ t < 256 := xor_lt (w := 8) ((appS m bs).getD q 0).toNat_lt ht
  have x2 : bits .xor .u8 (((appS m bs).getD q 0).toNat : Int) (t : Int) = ((((appS m bs).getD q 0).toNat ^^^ t : Nat) : Int) := u8_xor_nat _ _ ((appS m bs).getD q 0).toNat_lt ht
  obtain ⟨CS, hCS⟩ : ∃ CS, CS = (appS m bs).set q (UInt8.ofNat (((appS m bs).getD q 0).toNat ^^^ t)) := ⟨_, rfl⟩
  have hne := byte_turned hm hc (show 8 ≤ m.w by omega) (appS m bs) q t hql ht ht0
  rw [← hCS] at hne
  have hsl2 := sum_lt hm CS
  have HLC : Hid (CS.length = bs.length + m.w / 8) := by rw [hCS, List.length_set, appS_length]; exact rfl
  have HCM : Hid (CS.map encB = ((appS m bs).map encB).set q (.int .u8 ((((appS m bs).getD q 0).toNat ^^^ t : Nat) : Int))) := by
    show _ = _
    rw [hCS, List.map_set]
    congr 1
    unfold encB
    rw [UInt8.toNat_ofNat', Nat.mod_eq_of_lt hxt]
  have x3 : bits .xor .u64 (sumS m CS : Int) (m.X : Int) = ((sumS m CS ^^^ m.X : Nat) : Int) := u64_xor_nat _ _ (by omega) (by omega)
  have hne2 : sumS m CS ^^^ m.X ≠ resS m := by
    rw [← residue_sum hm h8 hio bs]
    intro h
    exact hne (xor_cancel h)
  have hnei : ¬ ((sumS m CS ^^^ m.X : Nat) : Int) = ((resS m : Nat) : Int) := by omega
  have HSM2 := hidD (fun v w' h => HSM.out CS v w' HLC.out h)
  have HCA : Hid (∀ w0 g base, World.ownsRow w0 base 5 1 (.slice (some ⟨g, 0, none⟩) (bs.length + m.w / 8) (bs.length + m.w / 8)) (bs.length + m.w / 8) ((appS m bs).map encB) → w0.cell? ⟨g, q, none⟩ = some (.int .u8 (((appS m bs).getD q 0).toNat : Int))) := fun w0 g base h => by
    rw [h.cellAt q (by rw [← appS_length]; omega), List.getElem?_map, List.getElem?_eq_getElem hql, List.getD_eq_getElem?_getD, List.getElem?_eq_getElem hql]; rfl
  have HRC : Hid (∀ w0 v base, World.ownsRow w0 base 5 1 v (bs.length + m.w / 8) (CS.map encB) → ByAt w0 v CS) := fun w0 v base h => row_by (base := base) (e := 5) (by rw [HLC.out]; exact h)
  rw [appS_length] at hrem hql hNpos
  have ht0b : ((t : Int) == 0) = false := by simpa using ht0
  have ht0i : ¬ (t : Int) = 0 := by omega
  have hqi : (q : Int) < ((bs.length + m.w / 8 : Nat) : Int) := by omega
  clear hc hxt hne hne2 hCS hsl2 hq hNpos
  have HM0 := hidD (MdAt.new m w 24)
  have HSZ : Hid (w.heap.size < (w.alloc (.cells m.cells 24)).heap.size) := by show _ < _; simp
  have HB0 : Hid (Below w.heap.size w (w.alloc (.cells m.cells 24))) := (Below.refl _ _).alloc (Nat.le_refl _) _
  have HMN : Hid (∀ w : World, MdAt (w.alloc (.cells m.cells 27)) w.heap.size m) := fun w => MdAt.new m w 27
  have HSM1 : Hid (∀ v w', ByAt w' v (appS m bs) → Calls Try.prog 10 #[m.v, v] w' fun e w2 => e = .returned (.tuple #[.int .u64 (sumS m (appS m bs) : Nat), .int .i64 0]) ∧ Below w'.heap.size w' w2) := fun v w' h => HSM.out _ v w' HLN.out h
  have hcnt : 0 < m.w / 8 := by omega
  have hN47 : bs.length + m.w / 8 ≤ 140737488355300 := by omega
  have HRB : Hid (∀ w0 v base, World.ownsRow w0 base 5 1 v (bs.length + m.w / 8) ((appS m bs).map encB) → ByAt w0 v (appS m bs)) := fun w0 v base h => row_by (base := base) (e := 5) (by rw [appS_length]; exact h)
  generalize hAP : appS m bs = AP at *
  clear hAP hs hp hX hsl hio h8
  have hNp : 0 < bs.length + m.w / 8 := by omega
  generalize bs.length + m.w / 8 = N at *
  generalize sumS m AP = S1 at *
  generalize resS m = R at *
  have hNi : ¬ ((N : Int) = 0) := by omega
  have hNn : ¬ N = 0 := by omega
  have hNb : ((N : Int) == 0) = false := by simpa using hNn
  generalize sumS m CS ^^^ m.X = SX at *
  generalize sumS m CS = S2 at *
  generalize (AP.getD q 0).toNat ^^^ t = xt at *
  generalize (AP.getD q 0).toNat = xv at *
  clear hm hhi hlo hcnt hl
  obtain ⟨nm, ww, P, I, inn, out, X⟩ := m
  simp only [Md.v, Md.cells] at *
  go_enter Try.func4, Try.ntmps4
  go_wp2_with (first
    | (go_at_call 6; refine (HL.out _).mono ?_; rintro e w1 ⟨rfl, hb1⟩; obtain ⟨k0, k1, k2, k3, k4, k5, k6⟩ := HM0.out.below hb1 HSZ.out; have HB1 := hidD (Below.next HB0.out hb1); clear hb1)
    | (go_at_call 7; refine (HM.out _).mono ?_; rintro e w2 ⟨rfl, hb2⟩; have HB2 := hidD (Below.next HB1.out hb2); clear hb2 k0 k1 k2 k3 k4 k5 k6; have HX := hidD (HMN.out w2); have HX0 : Hid (∀ o, w2.heap.size < (w2.alloc o).heap.size) := fun o => by simp)
    | (go_at_call 12; refine (HAP.out _ (Below.more HB2.out _)).mono ?_; rintro e w3 ⟨g, rfl, hown3, hb3⟩; obtain ⟨k0, k1, k2, k3, k4, k5, k6⟩ := HX.out.below hb3 (HX0.out _); have HX3 := hidD (HX.out.below hb3 (HX0.out _)); have HG := hidD (Nat.lt_of_lt_of_le (HX0.out _) hb3.size); have HB3 := hidD (Below.next (Below.more HB2.out _) hb3); have HO3 := hidD hown3; have HGX : Hid (w2.heap.size < g) := (by obtain ⟨g', c', e1, e2, _⟩ := row_shapeC hown3 (by omega); cases e1; exact Nat.lt_of_lt_of_le (HX0.out _) e2); clear hb3 hown3)
    | (go_at_call 13; refine (HRE.out _).mono ?_; rintro e w4 ⟨rfl, hb4⟩; clear k0 k1 k2 k3 k4 k5 k6; obtain ⟨k0, k1, k2, k3, k4, k5, k6⟩ := HX3.out.below hb4 HG.out; have HQ4 := hidD hb4; have HB4 := hidD (Below.next HB3.out hb4); clear hb4)
    | (go_at_call 11; refine (HN.out _ _).mono ?_; rintro e w5 ⟨rfl, hb5⟩; clear k0 k1 k2 k3 k4 k5 k6; have HQ5 := hidD (Below.next HQ4.out hb5); obtain ⟨k0, k1, k2, k3, k4, k5, k6⟩ := HX3.out.below HQ5.out HG.out; have HB5 := hidD (Below.next HB4.out hb5); have HY5 := hidD (HRB.out _ _ _ (row_below HO3.out HQ5.out)); clear hb5 HQ4)
    | (go_at_call 10; refine (HSM1.out _ _ HY5.out).mono ?_; rintro e w6 ⟨rfl, hb6⟩; clear k0 k1 k2 k3 k4 k5 k6; have HQ6 := hidD (Below.next HQ5.out hb6); obtain ⟨k0, k1, k2, k3, k4, k5, k6⟩ := HX3.out.below HQ6.out HG.out; have HB6 := hidD (Below.next HB5.out hb6); clear hb6 HSM1)
    | (go_at_call 11; have HQ6x := HQ6.out; refine (HN.out _ _).mono ?_; rintro e w7 ⟨rfl, hb7⟩; clear k0 k1 k2 k3 k4 k5 k6; have HQ7 := hidD (Below.next HQ6x hb7); clear HQ6 HQ6x; have HQ6 := HQ7; clear HQ7; obtain ⟨k0, k1, k2, k3, k4, k5, k6⟩ := HX3.out.below HQ6.out HG.out; have HB7 := hidD (Below.next HB6.out hb7); clear HB6; have HB6 := HB7; clear HB7 hb7))
  have HO7 := hidD (row_below HO3.out HQ6.out)
  have hcv := HCA.out _ _ _ HO7.out
  have hfr := HO7.out.frozenAt q
  have HST := hidD (HO7.out.stored q (.int .u8 (xt : Int)))
  go_region
  have HB8 : Hid (Below w.heap.size w (w7.setCell ⟨g, q, none⟩ (.int .u8 (xt : Int))).drew) := ((HB6.out).setCell (p := ⟨g, q, none⟩) (by have := HGX.out; have := HB2.out.size; show w.heap.size ≤ g; omega) _).drew
  have hX8 := (HX3.out.below HQ6.out HG.out).below (((Below.refl (w2.heap.size + 1) w7).setCell (p := ⟨g, q, none⟩) HGX.out (.int .u8 (xt : Int))).drew) (Nat.lt_succ_self _)
  have HY8 : Hid (ByAt (w7.setCell ⟨g, q, none⟩ (.int .u8 (xt : Int))).drew (.slice (some ⟨g, 0, none⟩) N N) CS) := HRC.out _ _ _ (by rw [HCM.out]; exact row_below HST.out.1 ((Below.refl _ _).drew))
  clear k0 k1 k2 k3 k4 k5 k6 hcv hfr
  have HX8 := hidD hX8
  obtain ⟨k0, k1, k2, k3, k4, k5, k6⟩ := hX8
  simp only at k0 k1 k2 k3 k4 k5 k6
  have HG8 : Hid (w2.heap.size < (w7.setCell ⟨g, q, none⟩ (.int .u8 (xt : Int))).drew.heap.size) := Nat.lt_of_lt_of_le HG.out (Nat.le_trans HQ6.out.size (((Below.refl (w2.heap.size + 1) w7).setCell (p := ⟨g, q, none⟩) HGX.out (.int .u8 (xt : Int))).drew).size)
  generalize (w7.setCell ⟨g, q, none⟩ (.int .u8 (xt : Int))).drew = w8 at *
  go_wp2_with (first
    | (go_at_call 10; refine (HSM2.out _ _ HY8.out).mono ?_; rintro e w9 ⟨rfl, hb9⟩; clear k0 k1 k2 k3 k4 k5 k6; obtain ⟨k0, k1, k2, k3, k4, k5, k6⟩ := HX8.out.below hb9 HG8.out; have HQ9 := hidD hb9; have HB9 := hidD (Below.next HB8.out hb9); clear hb9)
    | (go_at_call 11; refine (HN.out _ _).mono ?_; rintro e wa ⟨rfl, hba⟩; clear k0 k1 k2 k3 k4 k5 k6; obtain ⟨k0, k1, k2, k3, k4, k5, k6⟩ := HX8.out.below (Below.next HQ9.out hba) HG8.out; have HBa := hidD (Below.next HB9.out hba); clear hba))
  go_ret
  have hneb : ((SX : Int) != (R : Int)) = true := by rw [bne_iff_ne]; exact hnei
  exact ⟨by show Ending.returned (Value.bool ((SX : Int) != (R : Int))) = _; rw [hneb], HBa.out⟩

theorem resLaw_any (m : Mw) (hm : MwOk m) (bs : List UInt8) (hl : bs.length ≤ 140737488355200) (sl : Value) (at' : Int) (hat0 : -9223372036854775808 ≤ at') (hat1 : at' ≤ 9223372036854775807) (t : Nat) (ht : t < 256) (w : World) (hs : ByAt w sl bs) : Calls Try.prog 4 #[m.v, sl, .int .i64 at', .int .u8 t] w fun e w' => e = .returned (.bool true) ∧ Below w.heap.size w w' := by
  by_cases hv : m.Valid
  · by_cases ha : m.md.w % 8 = 0 ∧ m.md.inn = m.md.out
    · rw [hv.v]
      cases hP : m.md.P.testBit 0
      · exact resLaw_even m.md hv.2.2 ha.1 ha.2 bs hl sl at' hat0 hat1 t ht hP w hs
      · by_cases h0 : t = 0
        · subst h0
          exact resLaw_zero m.md hv.2.2 ha.1 ha.2 bs hl sl at' hat0 hat1 hP w hs
        · by_cases h1 : at' < 0
          · exact resLaw_neg m.md hv.2.2 ha.1 ha.2 bs hl sl at' hat0 hat1 t ht hP h0 h1 w hs
          · exact resLaw_pos m.md hv.2.2 ha.1 ha.2 bs hl sl at' hat0 hat1 t ht hP h0 (by omega) w hs
    · exact resLaw_errs m hm 1 (by omega) (fun sl w => by rw [hv.v]; exact append_arg m.md hv.2.2 ha sl w) sl at' t w
  · exact resLaw_errs m hm 40 (by omega) (fun sl w => append_model m hm hv sl w) sl at' t w
end Go.Proofs.Ytjhaaphgaplhlab
