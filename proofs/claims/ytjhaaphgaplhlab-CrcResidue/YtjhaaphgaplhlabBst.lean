/- The walk of CrcBursts. -/
import Derived.Test.YtjhaaphgaplhlabBur
namespace Go.Proofs.Ytjhaaphgaplhlab
open Go.RowKit
set_option linter.unusedVariables false

theorem and1_u64 {v : Nat} (hv : v < 18446744073709551616) : bits .and .u64 (v : Int) 1 = ((v.testBit 0).toNat : Int) := by
  rw [show (1 : Int) = ((1 : Nat) : Int) from rfl, u64_and_nat _ _ hv (by omega), nat_mask1]
  have := bit_nat v 0
  rw [Nat.pow_zero, Nat.div_one] at this
  rw [this]
theorem bit_u64 {v : Nat} (k : Nat) (hv : v < 18446744073709551616) : bits .and .u64 ((v : Int) / 2 ^ k) 1 = ((v.testBit k).toNat : Int) := by
  have h1 : (v : Int) / 2 ^ k = ((v / 2 ^ k : Nat) : Int) := by simp
  have h2 : v / 2 ^ k ≤ v := Nat.div_le_self _ _
  rw [h1, show (1 : Int) = ((1 : Nat) : Int) from rfl, u64_and_nat _ _ (by omega) (by omega), nat_mask1, bit_nat]
theorem and_mask {t n : Nat} (ht : t < 18446744073709551616) (hn : n ≤ 64) : bits .and .u64 (t : Int) ((2 ^ n - 1 : Nat) : Int) = ((t % 2 ^ n : Nat) : Int) := by
  have := pow64 hn
  rw [u64_and_nat _ _ ht (by have := Nat.two_pow_pos n; omega), Nat.and_two_pow_sub_one_eq_mod]

set_option maxRecDepth 100000 in
set_option maxHeartbeats 400000 in
/-- Where nothing is asked. -/
theorem bursts_out (m : Mw) (hm : MwOk m) (bs : List UInt8) (hl : bs.length ≤ 9223372036854775807) (ho : ¬ m.Valid ∨ m.P.testBit 0 = false ∨ bs.length = 0) (sa : Option Addr) (ca : Nat) (at' : Int) (turn : Nat) (w : World) : Calls Try.prog 3 #[m.v, .slice sa bs.length ca, .int .i64 at', .int .u64 turn] w fun e w' => e = .returned (.bool true) ∧ Below w.heap.size w w' := by
  have HL := hidD live_any
  have HM := hidD (fun w => mine_any m w)
  obtain ⟨vb, hvb⟩ : ∃ vb : Bool, vb = true ↔ m.Valid := by
    by_cases h : m.Valid
    · exact ⟨true, by simp [h]⟩
    · exact ⟨false, by simp [h]⟩
  have HV := hidD (fun w => valid_any m hm vb hvb w)
  have hp := and1_u64 hm.P
  have ho' : vb = false ∨ m.P.testBit 0 = false ∨ bs.length = 0 := by
    rcases ho with h | h | h
    · left; cases vb
      · rfl
      · exact absurd (hvb.1 rfl) h
    · exact .inr (.inl h)
    · exact .inr (.inr h)
  have HM0 := hidD (MwAt.new m w 24)
  have HSZ : Hid (w.heap.size < (w.alloc (.cells m.cells 24)).heap.size) := by show _ < _; simp
  have HB0 : Hid (Below w.heap.size w (w.alloc (.cells m.cells 24))) := (Below.refl _ _).alloc (Nat.le_refl _) _
  have HMN : Hid (∀ w : World, MwAt (w.alloc (.cells m.cells 27)) w.heap.size m) := fun w => MwAt.new m w 27
  clear hm hvb ho
  obtain ⟨nm, W, P, I, inn, out, X⟩ := m
  simp only [Mw.v, Mw.cells] at *
  generalize bs.length = n at *
  by_cases h1 : vb = false
  · subst h1
    clear ho' hp
    go_enter Try.func3, Try.ntmps3
    go_wp2_with (first
      | (go_at_call 6; refine (HL.out _).mono ?_; rintro e w1 ⟨rfl, hb1⟩; obtain ⟨k0, k1, k2, k3, k4, k5, k6⟩ := HM0.out.below hb1 HSZ.out; have HB1 := hidD (Below.next HB0.out hb1); clear hb1)
      | (go_at_call 7; refine (HM.out _).mono ?_; rintro e w2 ⟨rfl, hb2⟩; have HB2 := hidD (Below.next HB1.out hb2); clear hb2; have HX := hidD (HMN.out w2); have HX0 : Hid (∀ o, w2.heap.size < (w2.alloc o).heap.size) := fun o => by simp)
      | (go_at_call 8; refine (HV.out _).mono ?_; rintro e w3 ⟨rfl, hb3⟩; obtain ⟨q0, q1, q2, q3, q4, q5, q6⟩ := HX.out.below hb3 (HX0.out _); have HB3 := hidD (Below.next (Below.more HB2.out _) hb3); clear hb3))
    go_ret
    exact ⟨rfl, HB3.out⟩
  · have h1' : vb = true := by simpa using h1
    subst h1'
    by_cases h2 : P.testBit 0 = false
    · rw [h2] at hp
      clear ho'
      simp only [Bool.toNat_false] at hp
      go_enter Try.func3, Try.ntmps3
      go_wp2_with (first
        | (go_at_call 6; refine (HL.out _).mono ?_; rintro e w1 ⟨rfl, hb1⟩; obtain ⟨k0, k1, k2, k3, k4, k5, k6⟩ := HM0.out.below hb1 HSZ.out; have HB1 := hidD (Below.next HB0.out hb1); clear hb1)
        | (go_at_call 7; refine (HM.out _).mono ?_; rintro e w2 ⟨rfl, hb2⟩; have HB2 := hidD (Below.next HB1.out hb2); clear hb2; have HX := hidD (HMN.out w2); have HX0 : Hid (∀ o, w2.heap.size < (w2.alloc o).heap.size) := fun o => by simp)
        | (go_at_call 8; refine (HV.out _).mono ?_; rintro e w3 ⟨rfl, hb3⟩; obtain ⟨q0, q1, q2, q3, q4, q5, q6⟩ := HX.out.below hb3 (HX0.out _); have HB3 := hidD (Below.next (Below.more HB2.out _) hb3); clear hb3))
      go_ret
      exact ⟨rfl, HB3.out⟩
    · have h2' : P.testBit 0 = true := by simpa using h2
      have h3 : n = 0 := by rcases ho' with h | h | h; exact absurd h h1; exact absurd h h2; exact h
      subst h3
      rw [h2'] at hp
      clear ho' h1 h2 h2'
      simp only [Bool.toNat_true] at hp
      go_enter Try.func3, Try.ntmps3
      go_wp2_with (first
        | (go_at_call 6; refine (HL.out _).mono ?_; rintro e w1 ⟨rfl, hb1⟩; obtain ⟨k0, k1, k2, k3, k4, k5, k6⟩ := HM0.out.below hb1 HSZ.out; have HB1 := hidD (Below.next HB0.out hb1); clear hb1)
        | (go_at_call 7; refine (HM.out _).mono ?_; rintro e w2 ⟨rfl, hb2⟩; have HB2 := hidD (Below.next HB1.out hb2); clear hb2; have HX := hidD (HMN.out w2); have HX0 : Hid (∀ o, w2.heap.size < (w2.alloc o).heap.size) := fun o => by simp)
        | (go_at_call 8; refine (HV.out _).mono ?_; rintro e w3 ⟨rfl, hb3⟩; obtain ⟨q0, q1, q2, q3, q4, q5, q6⟩ := HX.out.below hb3 (HX0.out _); have HB3 := hidD (Below.next (Below.more HB2.out _) hb3); clear hb3))
      go_ret
      exact ⟨rfl, HB3.out⟩

set_option maxRecDepth 100000 in
set_option maxHeartbeats 1000000 in
theorem bursts_a (m : Md) (hm : MdOk m) (hP : m.P.testBit 0 = true) (bs : List UInt8) (h0 : 0 < bs.length) (hl : bs.length ≤ 140737488355327) (sa : Option Addr) (ca : Nat) (at' : Int) (hat0 : -9223372036854775808 ≤ at') (hat1 : at' ≤ 9223372036854775807) (turn : Nat) (ht : turn < 18446744073709551616) (hneg : at' < 0) (hw64 : m.w < 64) (w : World)
    (hs : ByAt w (.slice sa bs.length ca) bs) : Calls Try.prog 3 #[m.v, .slice sa bs.length ca, .int .i64 at', .int .u64 turn] w fun e w' => e = .returned (.bool true) ∧ Below w.heap.size w w' := by
  have HL := hidD live_any
  have HM : Hid (∀ w, Calls Try.prog 7 #[m.v] w fun e w' => e = .returned m.v ∧ Below w.heap.size w w') := fun w => mine_any ⟨m.name, m.w, m.P, m.I, m.inn, m.out, m.X⟩ w
  have HV : Hid (∀ w, Calls Try.prog 8 #[m.v] w fun e w' => e = .returned (.bool true) ∧ Below w.heap.size w w') := fun w => valid_any ⟨m.name, m.w, m.P, m.I, m.inn, m.out, m.X⟩ hm.raw true (by simp [Md.valid m hm]) w
  have HN := hidD no_any
  have HOWN : Hid (∀ w', Below w.heap.size w w' → Calls Try.prog 9 #[.slice sa bs.length ca] w' fun e w2 => ∃ v, e = .returned v ∧ w2.ownsRow w'.heap.size 5 1 v bs.length (bs.map encB) ∧ Below w'.heap.size w' w2) := fun w' h => own_any bs (by omega) _ w' (hs.below h (Nat.le_refl _))
  have HSB : Hid (∀ w', Below w.heap.size w w' → Calls Try.prog 10 #[m.v, .slice sa bs.length ca] w' fun e w2 => e = .returned (.tuple #[.int .u64 (sumS m bs : Nat), .int .i64 0]) ∧ Below w'.heap.size w' w2) := fun w' h => sum_some m hm _ (by omega) _ w' (hs.below h (Nat.le_refl _))
  have HSC : Hid (∀ (cs : List UInt8) (v : Value) (w' : World), cs.length = bs.length → ByAt w' v cs → Calls Try.prog 10 #[m.v, v] w' fun e w2 => e = .returned (.tuple #[.int .u64 (sumS m cs : Nat), .int .i64 0]) ∧ Below w'.heap.size w' w2) := fun cs v w' hc h => sum_some m hm cs (by omega) _ w' h
  obtain ⟨A, hA⟩ : ∃ A : Nat, A = (-(at' + 1)).toNat % (8 * bs.length) := ⟨_, rfl⟩
  have hAl : A < 8 * bs.length := by rw [hA]; exact Nat.mod_lt _ (by omega)
  have hrem : (-(at' + 1)).tmod (8 * (bs.length : Int)) = (A : Int) := by
    obtain ⟨z, hz⟩ : ∃ z : Nat, -(at' + 1) = (z : Int) := ⟨(-(at' + 1)).toNat, by omega⟩
    rw [Int.tmod_eq_emod_of_nonneg (by omega), hA, hz, Int.toNat_natCast, Int.natCast_emod, Int.natCast_mul]
    rfl
  obtain ⟨T, hT⟩ : ∃ T : Nat, T = turn % 2 ^ m.w := ⟨_, rfl⟩
  have hTl : T < 18446744073709551616 := by rw [hT]; have := Nat.mod_le turn (2 ^ m.w); omega
  have HBS := hidD (fun K hK hat => burst_sum hm hP bs A T K hK hat)
  have g1 : IntKind.u64.wrap (IntKind.u64.wrap (2 ^ m.w) - 1) = ((2 ^ m.w - 1 : Nat) : Int) := great_val hm.hi
  have g2 : bits .and .u64 (turn : Int) ((2 ^ m.w - 1 : Nat) : Int) = (T : Int) := by rw [and_mask ht hm.hi, hT]
  generalize 2 ^ m.w - 1 = MK at g1 g2
  have hp1 : bits .and .u64 (m.P : Int) 1 = 1 := by
    rw [and1_u64 (Nat.lt_of_lt_of_le hm.P (pow64 hm.hi)), hP]; rfl
  have hwlo := hm.lo
  have hwhi := hm.hi
  have HM0 := hidD (MdAt.new m w 24)
  have HSZ : Hid (w.heap.size < (w.alloc (.cells m.cells 24)).heap.size) := by show _ < _; simp
  have HB0 : Hid (Below w.heap.size w (w.alloc (.cells m.cells 24))) := (Below.refl _ _).alloc (Nat.le_refl _) _
  have HMN : Hid (∀ w : World, MdAt (w.alloc (.cells m.cells 27)) w.heap.size m) := fun w => MdAt.new m w 27
  have hnz : ¬ (bs.length = 0) := by omega
  have hnz2 : ¬ ((bs.length : Int) = 0) := by omega
  have HFL := hidD (fun k => flipTo_length m.inn bs A T k)
  clear hm hP hs hA hT ht
  obtain ⟨nm, ww, P, I, inn, out, X⟩ := m
  simp only [Md.v, Md.cells] at *
  generalize hn : bs.length = n at *
  have HNN := hidD hn
  clear hn
  go_enter Try.func3, Try.ntmps3
  go_wp2_with (first
    | (go_at_call 6; refine (HL.out _).mono ?_; rintro e w1 ⟨rfl, hb1⟩; obtain ⟨k0, k1, k2, k3, k4, k5, k6⟩ := HM0.out.below hb1 HSZ.out; have HB1 := hidD (Below.next HB0.out hb1); clear hb1)
    | (go_at_call 7; refine (HM.out _).mono ?_; rintro e w2 ⟨rfl, hb2⟩; have HB2 := hidD (Below.next HB1.out hb2); clear hb2 k0 k1 k2 k3 k4 k5 k6; have HX := hidD (HMN.out w2); have HX0 : Hid (∀ o, w2.heap.size < (w2.alloc o).heap.size) := fun o => by simp)
    | (go_at_call 8; refine (HV.out _).mono ?_; rintro e w3 ⟨rfl, hb3⟩; obtain ⟨q0, q1, q2, q3, q4, q5, q6⟩ := HX.out.below hb3 (HX0.out _); have HG := hidD (Nat.lt_of_lt_of_le (HX0.out _) hb3.size); have HX3 := hidD (HX.out.below hb3 (HX0.out _)); have HB3 := hidD (Below.next (Below.more HB2.out _) hb3); clear hb3)
    | (go_at_call 9; refine (HOWN.out _ HB3.out).mono ?_; rintro e w4 ⟨v4, rfl, hown4, hb4⟩; obtain ⟨gc, cc, rfl, hgb, hgl, _⟩ := row_shapeC hown4 (by omega); have HOW4 := hidD hown4; have HX4 := hidD (HX3.out.below hb4 HG.out); have HB4 := hidD hb4; clear hown4 hb4 q0 q1 q2 q3 q4 q5 q6 hgl))
  generalize w2.heap.size = gx at *
  have HGB := hidD hgb
  clear hgb
  go_loopw [11, 12] (fun b i wr => ∃ k : Nat, k ≤ ww ∧ A + k ≤ 8 * n ∧ i = .int .i64 k ∧ b = .bool (tflag T k) ∧ wr.ownsRow w3.heap.size 5 1 (.slice (some ⟨gc, 0, none⟩) n cc) n ((flipTo inn bs A T k).map encB) ∧ Below w3.heap.size w3 wr) (fun _ i _ => ww - (intOf i).toNat)
  case atStart => exact ⟨0, Nat.zero_le _, by omega, rfl, rfl, HOW4.out, HB4.out⟩
  case round =>
    obtain ⟨k, hk, hak, rfl, rfl, hown, hbel⟩ := hrel
    have HBL := hidD hbel
    have HOW := hidD hown
    have HXR := hidD (HX3.out.below hbel HG.out)
    obtain ⟨q0, q1, q2, q3, q4, q5, q6⟩ := HX3.out.below hbel HG.out
    simp only at q0 q1 q2 q3 q4 q5 q6
    have HNX : Hid (flipTo inn bs A T (k + 1) = if T.testBit k then flipAt inn (flipTo inn bs A T k) (A + k) else flipTo inn bs A T k) := rfl
    have HTF : Hid (tflag T (k + 1) = if T.testBit k then true else tflag T k) := rfl
    have hw47 : n ≤ 140737488355327 := hl
    by_cases hlt : k < ww ∧ A + k < 8 * n
    · obtain ⟨hkw, hkn⟩ := hlt
      have c1 : (k : Int) < ww := by omega
      have c2 : (A : Int) + k < 8 * n := by omega
      have hbt := bit_u64 k hTl
      have hk64 : k ≤ 64 := by omega
      by_cases htb : T.testBit k = true
      · rw [htb] at hbt HNX HTF
        simp only [Bool.toNat_true, if_true] at hbt HNX HTF
        obtain ⟨q, hq⟩ : ∃ q, q = (A + k) / 8 := ⟨_, rfl⟩
        obtain ⟨s, hs⟩ : ∃ s, s = (A + k) % 8 := ⟨_, rfl⟩
        have hq1 : ((A : Int) + k).tdiv 8 = (q : Int) := by rw [Int.tdiv_eq_ediv_of_nonneg (by omega), hq]; omega
        have hs1 : ((A : Int) + k).tmod 8 = (s : Int) := by rw [Int.tmod_eq_emod_of_nonneg (by omega), hs]; omega
        have hqn : q < n := by omega
        have hqni : (q : Int) < n := by omega
        have hs8 : s < 8 := by omega
        have hFq : q < (flipTo inn bs A T k).length := by rw [HFL.out k]; exact hqn
        have HU : Hid (((flipTo inn bs A T k).map encB).set q (.int .u8 (((flipTo inn bs A T k).getD q 0).toNat ^^^ 2 ^ plc inn (A + k) : Nat)) = (flipTo inn bs A T (k + 1)).map encB) := by
          show _ = _
          rw [HNX.out, flipAt, List.map_set, ← hq]
          congr 1
          unfold encB
          rw [flip_byte]
        have hce : wr.cell? ⟨gc, q, none⟩ = some (.int .u8 (((flipTo inn bs A T k).getD q 0).toNat : Int)) := by
          rw [hown.cellAt q (by omega), List.getElem?_map, List.getElem?_eq_getElem hFq, List.getD_eq_getElem?_getD, List.getElem?_eq_getElem hFq]; rfl
        have hfr := hown.frozenAt q
        have HST := hidD (fun u => (hown.stored q u).1)
        have hx8 := ((flipTo inn bs A T k).getD q 0).toNat_lt
        obtain ⟨pl, hpl⟩ : ∃ pl, pl = plc inn (A + k) := ⟨_, rfl⟩
        have hpl8 : pl < 8 := by rw [hpl]; exact plc_lt _ _
        rw [← hpl] at HU
        have hsh : (2 : Int) ^ pl % 256 = ((2 ^ pl : Nat) : Int) := by
          have h2 : 2 ^ pl < 2 ^ 8 := Nat.pow_lt_pow_right (by omega) hpl8
          rw [Int.emod_eq_of_lt (by exact_mod_cast Nat.zero_le _) (by exact_mod_cast h2)]; simp
        have hxo : bits .xor .u8 (((flipTo inn bs A T k).getD q 0).toNat : Int) ((2 ^ pl : Nat) : Int) = ((((flipTo inn bs A T k).getD q 0).toNat ^^^ 2 ^ pl : Nat) : Int) := u8_xor_nat _ _ hx8 (Nat.pow_lt_pow_right (n := 8) (by omega) hpl8)
        have hplI : pl ≤ 8 := by omega
        have HPL : Hid (pl = if inn then s else 7 - s) := by show _ = _; rw [hpl, hs]; rfl
        clear hown hbel hq hs hpl hFq hx8
        generalize ((flipTo inn bs A T k).getD q 0).toNat ^^^ 2 ^ pl = XV at *
        generalize ((flipTo inn bs A T k).getD q 0).toNat = xv at *
        generalize ((2 ^ pl : Nat) : Int) = PW at *
        cases inn
        · have hpe := HPL.out
          simp only [Bool.false_eq_true, if_false] at hpe
          have hp7 : (7 : Int) - s = ((7 - s : Nat) : Int) := by omega
          rw [← hpe] at hp7
          clear hpe HPL
          go_wp2_with fail
          go_roundw
          case rel => exact ⟨k + 1, by omega, by omega, by go_num, by rw [HTF.out], by rw [← HU.out]; exact HST.out _, (HBL.out).setCell (p := ⟨gc, q, none⟩) HGB.out _⟩
          case measure => simp [intOf]; omega
        · have hpe := HPL.out
          simp only [if_true] at hpe
          clear HPL
          subst hpe
          go_wp2_with fail
          go_roundw
          case rel => exact ⟨k + 1, by omega, by omega, by go_num, by rw [HTF.out], by rw [← HU.out]; exact HST.out _, (HBL.out).setCell (p := ⟨gc, q, none⟩) HGB.out _⟩
          case measure => simp [intOf]; omega
      · have htb' : T.testBit k = false := by simpa using htb
        rw [htb'] at hbt HNX HTF
        simp only [Bool.toNat_false, Bool.false_eq_true, if_false] at hbt HNX HTF
        clear htb htb' hown hbel
        go_wp2_with fail
        go_roundw
        case rel => exact ⟨k + 1, by omega, by omega, by go_num, by rw [HTF.out], by rw [HNX.out]; exact HOW.out, HBL.out⟩
        case measure => simp [intOf]; omega
    · have HK : Hid (k = ww ∨ A + k = 8 * n) := by show _ ∨ _; omega
      have HCL := hidD (HFL.out k)
      have HRB : Hid (ByAt wr (.slice (some ⟨gc, 0, none⟩) n cc) (flipTo inn bs A T k)) := by
        have h1 := hown
        rw [show wr.ownsRow w3.heap.size 5 1 (.slice (some ⟨gc, 0, none⟩) n cc) n ((flipTo inn bs A T k).map encB) = wr.ownsRow w3.heap.size 5 1 (.slice (some ⟨gc, 0, none⟩) n cc) (flipTo inn bs A T k).length ((flipTo inn bs A T k).map encB) by rw [HCL.out]] at h1
        exact row_by h1
      have HBW := hidD (Below.next HB3.out hbel)
      have HIFF := hidD (HBS.out k hk hak)
      have HTI := hidD (tflag_iff T k)
      have HSC2 := hidD (fun w' h => HSC.out (flipTo inn bs A T k) (.slice (some ⟨gc, 0, none⟩) n cc) w' HCL.out h)
      generalize flipTo inn bs A T k = FB at *
      generalize hS1 : sumS ⟨nm, ww, P, I, inn, out, X⟩ bs = S1 at *
      generalize hS2 : sumS ⟨nm, ww, P, I, inn, out, X⟩ FB = S2 at *
      generalize hTF : tflag T k = tf at *
      have HEX : Hid (¬ ((k : Int) < ww) ∨ ¬ ((A : Int) + k < 8 * n)) := by show _ ∨ _; have := HK.out; omega
      clear hS1 hS2 hTF hown hlt HTF HNX
      have fin : (((S1 : Int) != (S2 : Int)) == tf) = true := by
        cases tf
        · have : S1 = S2 := HIFF.out.2 (HTI.out.1 rfl)
          simp [this]
        · have : ¬ S1 = S2 := fun h => by have := HTI.out.2 (HIFF.out.1 h); cases this
          have h2 : ¬ (S1 : Int) = (S2 : Int) := by omega
          simp [h2]
      have HFIN := hidD fin
      clear fin
      by_cases hex : (k : Int) < ww
      · have hex2 : ¬ ((A : Int) + k < 8 * n) := by rcases HEX.out with h | h; exact absurd hex h; exact h
        clear HEX
        go_wp2_with (first
          | (go_at_call 10; refine (HSB.out _ HBW.out).mono ?_; rintro e w5 ⟨rfl, hb5⟩; have HB5 := hidD hb5; obtain ⟨p0, p1, p2, p3, p4, p5, p6⟩ := HXR.out.below hb5 (Nat.lt_of_lt_of_le HG.out HBL.out.size); simp only at p0 p1 p2 p3 p4 p5 p6; have HRB5 := hidD (HRB.out.below hb5 (Nat.le_refl _)); clear hb5 HSB)
          | (go_at_call 10; refine (HSC2.out _ HRB5.out).mono ?_; rintro e w6 ⟨rfl, hb6⟩; have HB6 := hidD hb6; clear hb6 HSC2)
          | (go_at_call 11; refine (HN.out _ _).mono ?_; rintro e w7 ⟨rfl, hb7⟩; have HB6 := hidD (Below.next HB6.out hb7); clear hb7))
        go_ret
        exact ⟨by show Ending.returned (Value.bool (((S1 : Int) != (S2 : Int)) == tf)) = _; rw [HFIN.out], Below.next (Below.next HBW.out HB5.out) HB6.out⟩
      · clear HEX
        go_wp2_with (first
          | (go_at_call 10; refine (HSB.out _ HBW.out).mono ?_; rintro e w5 ⟨rfl, hb5⟩; have HB5 := hidD hb5; obtain ⟨p0, p1, p2, p3, p4, p5, p6⟩ := HXR.out.below hb5 (Nat.lt_of_lt_of_le HG.out HBL.out.size); simp only at p0 p1 p2 p3 p4 p5 p6; have HRB5 := hidD (HRB.out.below hb5 (Nat.le_refl _)); clear hb5 HSB)
          | (go_at_call 10; refine (HSC2.out _ HRB5.out).mono ?_; rintro e w6 ⟨rfl, hb6⟩; have HB6 := hidD hb6; clear hb6 HSC2)
          | (go_at_call 11; refine (HN.out _ _).mono ?_; rintro e w7 ⟨rfl, hb7⟩; have HB6 := hidD (Below.next HB6.out hb7); clear hb7))
        go_ret
        exact ⟨by show Ending.returned (Value.bool (((S1 : Int) != (S2 : Int)) == tf)) = _; rw [HFIN.out], Below.next (Below.next HBW.out HB5.out) HB6.out⟩

set_option maxRecDepth 100000 in
set_option maxHeartbeats 1000000 in
theorem bursts_b (m : Md) (hm : MdOk m) (hP : m.P.testBit 0 = true) (bs : List UInt8) (h0 : 0 < bs.length) (hl : bs.length ≤ 140737488355327) (sa : Option Addr) (ca : Nat) (at' : Int) (hat0 : -9223372036854775808 ≤ at') (hat1 : at' ≤ 9223372036854775807) (turn : Nat) (ht : turn < 18446744073709551616) (hneg : at' < 0) (hw64 : m.w = 64) (w : World)
    (hs : ByAt w (.slice sa bs.length ca) bs) : Calls Try.prog 3 #[m.v, .slice sa bs.length ca, .int .i64 at', .int .u64 turn] w fun e w' => e = .returned (.bool true) ∧ Below w.heap.size w w' := by
  have HL := hidD live_any
  have HM : Hid (∀ w, Calls Try.prog 7 #[m.v] w fun e w' => e = .returned m.v ∧ Below w.heap.size w w') := fun w => mine_any ⟨m.name, m.w, m.P, m.I, m.inn, m.out, m.X⟩ w
  have HV : Hid (∀ w, Calls Try.prog 8 #[m.v] w fun e w' => e = .returned (.bool true) ∧ Below w.heap.size w w') := fun w => valid_any ⟨m.name, m.w, m.P, m.I, m.inn, m.out, m.X⟩ hm.raw true (by simp [Md.valid m hm]) w
  have HN := hidD no_any
  have HOWN : Hid (∀ w', Below w.heap.size w w' → Calls Try.prog 9 #[.slice sa bs.length ca] w' fun e w2 => ∃ v, e = .returned v ∧ w2.ownsRow w'.heap.size 5 1 v bs.length (bs.map encB) ∧ Below w'.heap.size w' w2) := fun w' h => own_any bs (by omega) _ w' (hs.below h (Nat.le_refl _))
  have HSB : Hid (∀ w', Below w.heap.size w w' → Calls Try.prog 10 #[m.v, .slice sa bs.length ca] w' fun e w2 => e = .returned (.tuple #[.int .u64 (sumS m bs : Nat), .int .i64 0]) ∧ Below w'.heap.size w' w2) := fun w' h => sum_some m hm _ (by omega) _ w' (hs.below h (Nat.le_refl _))
  have HSC : Hid (∀ (cs : List UInt8) (v : Value) (w' : World), cs.length = bs.length → ByAt w' v cs → Calls Try.prog 10 #[m.v, v] w' fun e w2 => e = .returned (.tuple #[.int .u64 (sumS m cs : Nat), .int .i64 0]) ∧ Below w'.heap.size w' w2) := fun cs v w' hc h => sum_some m hm cs (by omega) _ w' h
  obtain ⟨A, hA⟩ : ∃ A : Nat, A = (-(at' + 1)).toNat % (8 * bs.length) := ⟨_, rfl⟩
  have hAl : A < 8 * bs.length := by rw [hA]; exact Nat.mod_lt _ (by omega)
  have hrem : (-(at' + 1)).tmod (8 * (bs.length : Int)) = (A : Int) := by
    obtain ⟨z, hz⟩ : ∃ z : Nat, -(at' + 1) = (z : Int) := ⟨(-(at' + 1)).toNat, by omega⟩
    rw [Int.tmod_eq_emod_of_nonneg (by omega), hA, hz, Int.toNat_natCast, Int.natCast_emod, Int.natCast_mul]
    rfl
  obtain ⟨T, hT⟩ : ∃ T : Nat, T = turn := ⟨_, rfl⟩
  have hTl : T < 18446744073709551616 := by rw [hT]; exact ht
  have HBS := hidD (fun K hK hat => burst_sum hm hP bs A T K hK hat)
  have hp1 : bits .and .u64 (m.P : Int) 1 = 1 := by
    rw [and1_u64 (Nat.lt_of_lt_of_le hm.P (pow64 hm.hi)), hP]; rfl
  have hwlo := hm.lo
  have hwhi := hm.hi
  have HM0 := hidD (MdAt.new m w 24)
  have HSZ : Hid (w.heap.size < (w.alloc (.cells m.cells 24)).heap.size) := by show _ < _; simp
  have HB0 : Hid (Below w.heap.size w (w.alloc (.cells m.cells 24))) := (Below.refl _ _).alloc (Nat.le_refl _) _
  have HMN : Hid (∀ w : World, MdAt (w.alloc (.cells m.cells 27)) w.heap.size m) := fun w => MdAt.new m w 27
  have hnz : ¬ (bs.length = 0) := by omega
  have hnz2 : ¬ ((bs.length : Int) = 0) := by omega
  have HFL := hidD (fun k => flipTo_length m.inn bs A T k)
  subst hT
  clear hm hP hs hA ht
  obtain ⟨nm, ww, P, I, inn, out, X⟩ := m
  simp only [Md.v, Md.cells] at *
  have c64 : ¬ ((ww : Int) < 64) := by omega
  clear hw64
  generalize hn : bs.length = n at *
  have HNN := hidD hn
  clear hn
  go_enter Try.func3, Try.ntmps3
  go_wp2_with (first
    | (go_at_call 6; refine (HL.out _).mono ?_; rintro e w1 ⟨rfl, hb1⟩; obtain ⟨k0, k1, k2, k3, k4, k5, k6⟩ := HM0.out.below hb1 HSZ.out; have HB1 := hidD (Below.next HB0.out hb1); clear hb1)
    | (go_at_call 7; refine (HM.out _).mono ?_; rintro e w2 ⟨rfl, hb2⟩; have HB2 := hidD (Below.next HB1.out hb2); clear hb2 k0 k1 k2 k3 k4 k5 k6; have HX := hidD (HMN.out w2); have HX0 : Hid (∀ o, w2.heap.size < (w2.alloc o).heap.size) := fun o => by simp)
    | (go_at_call 8; refine (HV.out _).mono ?_; rintro e w3 ⟨rfl, hb3⟩; obtain ⟨q0, q1, q2, q3, q4, q5, q6⟩ := HX.out.below hb3 (HX0.out _); have HG := hidD (Nat.lt_of_lt_of_le (HX0.out _) hb3.size); have HX3 := hidD (HX.out.below hb3 (HX0.out _)); have HB3 := hidD (Below.next (Below.more HB2.out _) hb3); clear hb3)
    | (go_at_call 9; refine (HOWN.out _ HB3.out).mono ?_; rintro e w4 ⟨v4, rfl, hown4, hb4⟩; obtain ⟨gc, cc, rfl, hgb, hgl, _⟩ := row_shapeC hown4 (by omega); have HOW4 := hidD hown4; have HX4 := hidD (HX3.out.below hb4 HG.out); have HB4 := hidD hb4; clear hown4 hb4 q0 q1 q2 q3 q4 q5 q6 hgl))
  generalize w2.heap.size = gx at *
  have HGB := hidD hgb
  clear hgb
  go_loopw [11, 12] (fun b i wr => ∃ k : Nat, k ≤ ww ∧ A + k ≤ 8 * n ∧ i = .int .i64 k ∧ b = .bool (tflag T k) ∧ wr.ownsRow w3.heap.size 5 1 (.slice (some ⟨gc, 0, none⟩) n cc) n ((flipTo inn bs A T k).map encB) ∧ Below w3.heap.size w3 wr) (fun _ i _ => ww - (intOf i).toNat)
  case atStart => exact ⟨0, Nat.zero_le _, by omega, rfl, rfl, HOW4.out, HB4.out⟩
  case round =>
    obtain ⟨k, hk, hak, rfl, rfl, hown, hbel⟩ := hrel
    have HBL := hidD hbel
    have HOW := hidD hown
    have HXR := hidD (HX3.out.below hbel HG.out)
    obtain ⟨q0, q1, q2, q3, q4, q5, q6⟩ := HX3.out.below hbel HG.out
    simp only at q0 q1 q2 q3 q4 q5 q6
    have HNX : Hid (flipTo inn bs A T (k + 1) = if T.testBit k then flipAt inn (flipTo inn bs A T k) (A + k) else flipTo inn bs A T k) := rfl
    have HTF : Hid (tflag T (k + 1) = if T.testBit k then true else tflag T k) := rfl
    have hw47 : n ≤ 140737488355327 := hl
    by_cases hlt : k < ww ∧ A + k < 8 * n
    · obtain ⟨hkw, hkn⟩ := hlt
      have c1 : (k : Int) < ww := by omega
      have c2 : (A : Int) + k < 8 * n := by omega
      have hbt := bit_u64 k hTl
      have hk64 : k ≤ 64 := by omega
      by_cases htb : T.testBit k = true
      · rw [htb] at hbt HNX HTF
        simp only [Bool.toNat_true, if_true] at hbt HNX HTF
        obtain ⟨q, hq⟩ : ∃ q, q = (A + k) / 8 := ⟨_, rfl⟩
        obtain ⟨s, hs⟩ : ∃ s, s = (A + k) % 8 := ⟨_, rfl⟩
        have hq1 : ((A : Int) + k).tdiv 8 = (q : Int) := by rw [Int.tdiv_eq_ediv_of_nonneg (by omega), hq]; omega
        have hs1 : ((A : Int) + k).tmod 8 = (s : Int) := by rw [Int.tmod_eq_emod_of_nonneg (by omega), hs]; omega
        have hqn : q < n := by omega
        have hqni : (q : Int) < n := by omega
        have hs8 : s < 8 := by omega
        have hFq : q < (flipTo inn bs A T k).length := by rw [HFL.out k]; exact hqn
        have HU : Hid (((flipTo inn bs A T k).map encB).set q (.int .u8 (((flipTo inn bs A T k).getD q 0).toNat ^^^ 2 ^ plc inn (A + k) : Nat)) = (flipTo inn bs A T (k + 1)).map encB) := by
          show _ = _
          rw [HNX.out, flipAt, List.map_set, ← hq]
          congr 1
          unfold encB
          rw [flip_byte]
        have hce : wr.cell? ⟨gc, q, none⟩ = some (.int .u8 (((flipTo inn bs A T k).getD q 0).toNat : Int)) := by
          rw [hown.cellAt q (by omega), List.getElem?_map, List.getElem?_eq_getElem hFq, List.getD_eq_getElem?_getD, List.getElem?_eq_getElem hFq]; rfl
        have hfr := hown.frozenAt q
        have HST := hidD (fun u => (hown.stored q u).1)
        have hx8 := ((flipTo inn bs A T k).getD q 0).toNat_lt
        obtain ⟨pl, hpl⟩ : ∃ pl, pl = plc inn (A + k) := ⟨_, rfl⟩
        have hpl8 : pl < 8 := by rw [hpl]; exact plc_lt _ _
        rw [← hpl] at HU
        have hsh : (2 : Int) ^ pl % 256 = ((2 ^ pl : Nat) : Int) := by
          have h2 : 2 ^ pl < 2 ^ 8 := Nat.pow_lt_pow_right (by omega) hpl8
          rw [Int.emod_eq_of_lt (by exact_mod_cast Nat.zero_le _) (by exact_mod_cast h2)]; simp
        have hxo : bits .xor .u8 (((flipTo inn bs A T k).getD q 0).toNat : Int) ((2 ^ pl : Nat) : Int) = ((((flipTo inn bs A T k).getD q 0).toNat ^^^ 2 ^ pl : Nat) : Int) := u8_xor_nat _ _ hx8 (Nat.pow_lt_pow_right (n := 8) (by omega) hpl8)
        have hplI : pl ≤ 8 := by omega
        have HPL : Hid (pl = if inn then s else 7 - s) := by show _ = _; rw [hpl, hs]; rfl
        clear hown hbel hq hs hpl hFq hx8
        generalize ((flipTo inn bs A T k).getD q 0).toNat ^^^ 2 ^ pl = XV at *
        generalize ((flipTo inn bs A T k).getD q 0).toNat = xv at *
        generalize ((2 ^ pl : Nat) : Int) = PW at *
        cases inn
        · have hpe := HPL.out
          simp only [Bool.false_eq_true, if_false] at hpe
          have hp7 : (7 : Int) - s = ((7 - s : Nat) : Int) := by omega
          rw [← hpe] at hp7
          clear hpe HPL
          go_wp2_with fail
          go_roundw
          case rel => exact ⟨k + 1, by omega, by omega, by go_num, by rw [HTF.out], by rw [← HU.out]; exact HST.out _, (HBL.out).setCell (p := ⟨gc, q, none⟩) HGB.out _⟩
          case measure => simp [intOf]; omega
        · have hpe := HPL.out
          simp only [if_true] at hpe
          clear HPL
          subst hpe
          go_wp2_with fail
          go_roundw
          case rel => exact ⟨k + 1, by omega, by omega, by go_num, by rw [HTF.out], by rw [← HU.out]; exact HST.out _, (HBL.out).setCell (p := ⟨gc, q, none⟩) HGB.out _⟩
          case measure => simp [intOf]; omega
      · have htb' : T.testBit k = false := by simpa using htb
        rw [htb'] at hbt HNX HTF
        simp only [Bool.toNat_false, Bool.false_eq_true, if_false] at hbt HNX HTF
        clear htb htb' hown hbel
        go_wp2_with fail
        go_roundw
        case rel => exact ⟨k + 1, by omega, by omega, by go_num, by rw [HTF.out], by rw [HNX.out]; exact HOW.out, HBL.out⟩
        case measure => simp [intOf]; omega
    · have HK : Hid (k = ww ∨ A + k = 8 * n) := by show _ ∨ _; omega
      have HCL := hidD (HFL.out k)
      have HRB : Hid (ByAt wr (.slice (some ⟨gc, 0, none⟩) n cc) (flipTo inn bs A T k)) := by
        have h1 := hown
        rw [show wr.ownsRow w3.heap.size 5 1 (.slice (some ⟨gc, 0, none⟩) n cc) n ((flipTo inn bs A T k).map encB) = wr.ownsRow w3.heap.size 5 1 (.slice (some ⟨gc, 0, none⟩) n cc) (flipTo inn bs A T k).length ((flipTo inn bs A T k).map encB) by rw [HCL.out]] at h1
        exact row_by h1
      have HBW := hidD (Below.next HB3.out hbel)
      have HIFF := hidD (HBS.out k hk hak)
      have HTI := hidD (tflag_iff T k)
      have HSC2 := hidD (fun w' h => HSC.out (flipTo inn bs A T k) (.slice (some ⟨gc, 0, none⟩) n cc) w' HCL.out h)
      generalize flipTo inn bs A T k = FB at *
      generalize hS1 : sumS ⟨nm, ww, P, I, inn, out, X⟩ bs = S1 at *
      generalize hS2 : sumS ⟨nm, ww, P, I, inn, out, X⟩ FB = S2 at *
      generalize hTF : tflag T k = tf at *
      have HEX : Hid (¬ ((k : Int) < ww) ∨ ¬ ((A : Int) + k < 8 * n)) := by show _ ∨ _; have := HK.out; omega
      clear hS1 hS2 hTF hown hlt HTF HNX
      have fin : (((S1 : Int) != (S2 : Int)) == tf) = true := by
        cases tf
        · have : S1 = S2 := HIFF.out.2 (HTI.out.1 rfl)
          simp [this]
        · have : ¬ S1 = S2 := fun h => by have := HTI.out.2 (HIFF.out.1 h); cases this
          have h2 : ¬ (S1 : Int) = (S2 : Int) := by omega
          simp [h2]
      have HFIN := hidD fin
      clear fin
      by_cases hex : (k : Int) < ww
      · have hex2 : ¬ ((A : Int) + k < 8 * n) := by rcases HEX.out with h | h; exact absurd hex h; exact h
        clear HEX
        go_wp2_with (first
          | (go_at_call 10; refine (HSB.out _ HBW.out).mono ?_; rintro e w5 ⟨rfl, hb5⟩; have HB5 := hidD hb5; obtain ⟨p0, p1, p2, p3, p4, p5, p6⟩ := HXR.out.below hb5 (Nat.lt_of_lt_of_le HG.out HBL.out.size); simp only at p0 p1 p2 p3 p4 p5 p6; have HRB5 := hidD (HRB.out.below hb5 (Nat.le_refl _)); clear hb5 HSB)
          | (go_at_call 10; refine (HSC2.out _ HRB5.out).mono ?_; rintro e w6 ⟨rfl, hb6⟩; have HB6 := hidD hb6; clear hb6 HSC2)
          | (go_at_call 11; refine (HN.out _ _).mono ?_; rintro e w7 ⟨rfl, hb7⟩; have HB6 := hidD (Below.next HB6.out hb7); clear hb7))
        go_ret
        exact ⟨by show Ending.returned (Value.bool (((S1 : Int) != (S2 : Int)) == tf)) = _; rw [HFIN.out], Below.next (Below.next HBW.out HB5.out) HB6.out⟩
      · clear HEX
        go_wp2_with (first
          | (go_at_call 10; refine (HSB.out _ HBW.out).mono ?_; rintro e w5 ⟨rfl, hb5⟩; have HB5 := hidD hb5; obtain ⟨p0, p1, p2, p3, p4, p5, p6⟩ := HXR.out.below hb5 (Nat.lt_of_lt_of_le HG.out HBL.out.size); simp only at p0 p1 p2 p3 p4 p5 p6; have HRB5 := hidD (HRB.out.below hb5 (Nat.le_refl _)); clear hb5 HSB)
          | (go_at_call 10; refine (HSC2.out _ HRB5.out).mono ?_; rintro e w6 ⟨rfl, hb6⟩; have HB6 := hidD hb6; clear hb6 HSC2)
          | (go_at_call 11; refine (HN.out _ _).mono ?_; rintro e w7 ⟨rfl, hb7⟩; have HB6 := hidD (Below.next HB6.out hb7); clear hb7))
        go_ret
        exact ⟨by show Ending.returned (Value.bool (((S1 : Int) != (S2 : Int)) == tf)) = _; rw [HFIN.out], Below.next (Below.next HBW.out HB5.out) HB6.out⟩

set_option maxRecDepth 100000 in
set_option maxHeartbeats 1000000 in
theorem bursts_c (m : Md) (hm : MdOk m) (hP : m.P.testBit 0 = true) (bs : List UInt8) (h0 : 0 < bs.length) (hl : bs.length ≤ 140737488355327) (sa : Option Addr) (ca : Nat) (at' : Int) (hat0 : -9223372036854775808 ≤ at') (hat1 : at' ≤ 9223372036854775807) (turn : Nat) (ht : turn < 18446744073709551616) (hneg : 0 ≤ at') (hw64 : m.w < 64) (w : World)
    (hs : ByAt w (.slice sa bs.length ca) bs) : Calls Try.prog 3 #[m.v, .slice sa bs.length ca, .int .i64 at', .int .u64 turn] w fun e w' => e = .returned (.bool true) ∧ Below w.heap.size w w' := by
  have HL := hidD live_any
  have HM : Hid (∀ w, Calls Try.prog 7 #[m.v] w fun e w' => e = .returned m.v ∧ Below w.heap.size w w') := fun w => mine_any ⟨m.name, m.w, m.P, m.I, m.inn, m.out, m.X⟩ w
  have HV : Hid (∀ w, Calls Try.prog 8 #[m.v] w fun e w' => e = .returned (.bool true) ∧ Below w.heap.size w w') := fun w => valid_any ⟨m.name, m.w, m.P, m.I, m.inn, m.out, m.X⟩ hm.raw true (by simp [Md.valid m hm]) w
  have HN := hidD no_any
  have HOWN : Hid (∀ w', Below w.heap.size w w' → Calls Try.prog 9 #[.slice sa bs.length ca] w' fun e w2 => ∃ v, e = .returned v ∧ w2.ownsRow w'.heap.size 5 1 v bs.length (bs.map encB) ∧ Below w'.heap.size w' w2) := fun w' h => own_any bs (by omega) _ w' (hs.below h (Nat.le_refl _))
  have HSB : Hid (∀ w', Below w.heap.size w w' → Calls Try.prog 10 #[m.v, .slice sa bs.length ca] w' fun e w2 => e = .returned (.tuple #[.int .u64 (sumS m bs : Nat), .int .i64 0]) ∧ Below w'.heap.size w' w2) := fun w' h => sum_some m hm _ (by omega) _ w' (hs.below h (Nat.le_refl _))
  have HSC : Hid (∀ (cs : List UInt8) (v : Value) (w' : World), cs.length = bs.length → ByAt w' v cs → Calls Try.prog 10 #[m.v, v] w' fun e w2 => e = .returned (.tuple #[.int .u64 (sumS m cs : Nat), .int .i64 0]) ∧ Below w'.heap.size w' w2) := fun cs v w' hc h => sum_some m hm cs (by omega) _ w' h
  obtain ⟨A, hA⟩ : ∃ A : Nat, A = (at').toNat % (8 * bs.length) := ⟨_, rfl⟩
  have hAl : A < 8 * bs.length := by rw [hA]; exact Nat.mod_lt _ (by omega)
  have hrem : (at').tmod (8 * (bs.length : Int)) = (A : Int) := by
    obtain ⟨z, hz⟩ : ∃ z : Nat, at' = (z : Int) := ⟨(at').toNat, by omega⟩
    rw [Int.tmod_eq_emod_of_nonneg (by omega), hA, hz, Int.toNat_natCast, Int.natCast_emod, Int.natCast_mul]
    rfl
  obtain ⟨T, hT⟩ : ∃ T : Nat, T = turn % 2 ^ m.w := ⟨_, rfl⟩
  have hTl : T < 18446744073709551616 := by rw [hT]; have := Nat.mod_le turn (2 ^ m.w); omega
  have HBS := hidD (fun K hK hat => burst_sum hm hP bs A T K hK hat)
  have g1 : IntKind.u64.wrap (IntKind.u64.wrap (2 ^ m.w) - 1) = ((2 ^ m.w - 1 : Nat) : Int) := great_val hm.hi
  have g2 : bits .and .u64 (turn : Int) ((2 ^ m.w - 1 : Nat) : Int) = (T : Int) := by rw [and_mask ht hm.hi, hT]
  generalize 2 ^ m.w - 1 = MK at g1 g2
  have hp1 : bits .and .u64 (m.P : Int) 1 = 1 := by
    rw [and1_u64 (Nat.lt_of_lt_of_le hm.P (pow64 hm.hi)), hP]; rfl
  have hwlo := hm.lo
  have hwhi := hm.hi
  have HM0 := hidD (MdAt.new m w 24)
  have HSZ : Hid (w.heap.size < (w.alloc (.cells m.cells 24)).heap.size) := by show _ < _; simp
  have HB0 : Hid (Below w.heap.size w (w.alloc (.cells m.cells 24))) := (Below.refl _ _).alloc (Nat.le_refl _) _
  have HMN : Hid (∀ w : World, MdAt (w.alloc (.cells m.cells 27)) w.heap.size m) := fun w => MdAt.new m w 27
  have hnz : ¬ (bs.length = 0) := by omega
  have hnz2 : ¬ ((bs.length : Int) = 0) := by omega
  have HFL := hidD (fun k => flipTo_length m.inn bs A T k)
  clear hm hP hs hA hT ht
  obtain ⟨nm, ww, P, I, inn, out, X⟩ := m
  simp only [Md.v, Md.cells] at *
  generalize hn : bs.length = n at *
  have HNN := hidD hn
  clear hn
  go_enter Try.func3, Try.ntmps3
  go_wp2_with (first
    | (go_at_call 6; refine (HL.out _).mono ?_; rintro e w1 ⟨rfl, hb1⟩; obtain ⟨k0, k1, k2, k3, k4, k5, k6⟩ := HM0.out.below hb1 HSZ.out; have HB1 := hidD (Below.next HB0.out hb1); clear hb1)
    | (go_at_call 7; refine (HM.out _).mono ?_; rintro e w2 ⟨rfl, hb2⟩; have HB2 := hidD (Below.next HB1.out hb2); clear hb2 k0 k1 k2 k3 k4 k5 k6; have HX := hidD (HMN.out w2); have HX0 : Hid (∀ o, w2.heap.size < (w2.alloc o).heap.size) := fun o => by simp)
    | (go_at_call 8; refine (HV.out _).mono ?_; rintro e w3 ⟨rfl, hb3⟩; obtain ⟨q0, q1, q2, q3, q4, q5, q6⟩ := HX.out.below hb3 (HX0.out _); have HG := hidD (Nat.lt_of_lt_of_le (HX0.out _) hb3.size); have HX3 := hidD (HX.out.below hb3 (HX0.out _)); have HB3 := hidD (Below.next (Below.more HB2.out _) hb3); clear hb3)
    | (go_at_call 9; refine (HOWN.out _ HB3.out).mono ?_; rintro e w4 ⟨v4, rfl, hown4, hb4⟩; obtain ⟨gc, cc, rfl, hgb, hgl, _⟩ := row_shapeC hown4 (by omega); have HOW4 := hidD hown4; have HX4 := hidD (HX3.out.below hb4 HG.out); have HB4 := hidD hb4; clear hown4 hb4 q0 q1 q2 q3 q4 q5 q6 hgl))
  generalize w2.heap.size = gx at *
  have HGB := hidD hgb
  clear hgb
  go_loopw [11, 12] (fun b i wr => ∃ k : Nat, k ≤ ww ∧ A + k ≤ 8 * n ∧ i = .int .i64 k ∧ b = .bool (tflag T k) ∧ wr.ownsRow w3.heap.size 5 1 (.slice (some ⟨gc, 0, none⟩) n cc) n ((flipTo inn bs A T k).map encB) ∧ Below w3.heap.size w3 wr) (fun _ i _ => ww - (intOf i).toNat)
  case atStart => exact ⟨0, Nat.zero_le _, by omega, rfl, rfl, HOW4.out, HB4.out⟩
  case round =>
    obtain ⟨k, hk, hak, rfl, rfl, hown, hbel⟩ := hrel
    have HBL := hidD hbel
    have HOW := hidD hown
    have HXR := hidD (HX3.out.below hbel HG.out)
    obtain ⟨q0, q1, q2, q3, q4, q5, q6⟩ := HX3.out.below hbel HG.out
    simp only at q0 q1 q2 q3 q4 q5 q6
    have HNX : Hid (flipTo inn bs A T (k + 1) = if T.testBit k then flipAt inn (flipTo inn bs A T k) (A + k) else flipTo inn bs A T k) := rfl
    have HTF : Hid (tflag T (k + 1) = if T.testBit k then true else tflag T k) := rfl
    have hw47 : n ≤ 140737488355327 := hl
    by_cases hlt : k < ww ∧ A + k < 8 * n
    · obtain ⟨hkw, hkn⟩ := hlt
      have c1 : (k : Int) < ww := by omega
      have c2 : (A : Int) + k < 8 * n := by omega
      have hbt := bit_u64 k hTl
      have hk64 : k ≤ 64 := by omega
      by_cases htb : T.testBit k = true
      · rw [htb] at hbt HNX HTF
        simp only [Bool.toNat_true, if_true] at hbt HNX HTF
        obtain ⟨q, hq⟩ : ∃ q, q = (A + k) / 8 := ⟨_, rfl⟩
        obtain ⟨s, hs⟩ : ∃ s, s = (A + k) % 8 := ⟨_, rfl⟩
        have hq1 : ((A : Int) + k).tdiv 8 = (q : Int) := by rw [Int.tdiv_eq_ediv_of_nonneg (by omega), hq]; omega
        have hs1 : ((A : Int) + k).tmod 8 = (s : Int) := by rw [Int.tmod_eq_emod_of_nonneg (by omega), hs]; omega
        have hqn : q < n := by omega
        have hqni : (q : Int) < n := by omega
        have hs8 : s < 8 := by omega
        have hFq : q < (flipTo inn bs A T k).length := by rw [HFL.out k]; exact hqn
        have HU : Hid (((flipTo inn bs A T k).map encB).set q (.int .u8 (((flipTo inn bs A T k).getD q 0).toNat ^^^ 2 ^ plc inn (A + k) : Nat)) = (flipTo inn bs A T (k + 1)).map encB) := by
          show _ = _
          rw [HNX.out, flipAt, List.map_set, ← hq]
          congr 1
          unfold encB
          rw [flip_byte]
        have hce : wr.cell? ⟨gc, q, none⟩ = some (.int .u8 (((flipTo inn bs A T k).getD q 0).toNat : Int)) := by
          rw [hown.cellAt q (by omega), List.getElem?_map, List.getElem?_eq_getElem hFq, List.getD_eq_getElem?_getD, List.getElem?_eq_getElem hFq]; rfl
        have hfr := hown.frozenAt q
        have HST := hidD (fun u => (hown.stored q u).1)
        have hx8 := ((flipTo inn bs A T k).getD q 0).toNat_lt
        obtain ⟨pl, hpl⟩ : ∃ pl, pl = plc inn (A + k) := ⟨_, rfl⟩
        have hpl8 : pl < 8 := by rw [hpl]; exact plc_lt _ _
        rw [← hpl] at HU
        have hsh : (2 : Int) ^ pl % 256 = ((2 ^ pl : Nat) : Int) := by
          have h2 : 2 ^ pl < 2 ^ 8 := Nat.pow_lt_pow_right (by omega) hpl8
          rw [Int.emod_eq_of_lt (by exact_mod_cast Nat.zero_le _) (by exact_mod_cast h2)]; simp
        have hxo : bits .xor .u8 (((flipTo inn bs A T k).getD q 0).toNat : Int) ((2 ^ pl : Nat) : Int) = ((((flipTo inn bs A T k).getD q 0).toNat ^^^ 2 ^ pl : Nat) : Int) := u8_xor_nat _ _ hx8 (Nat.pow_lt_pow_right (n := 8) (by omega) hpl8)
        have hplI : pl ≤ 8 := by omega
        have HPL : Hid (pl = if inn then s else 7 - s) := by show _ = _; rw [hpl, hs]; rfl
        clear hown hbel hq hs hpl hFq hx8
        generalize ((flipTo inn bs A T k).getD q 0).toNat ^^^ 2 ^ pl = XV at *
        generalize ((flipTo inn bs A T k).getD q 0).toNat = xv at *
        generalize ((2 ^ pl : Nat) : Int) = PW at *
        cases inn
        · have hpe := HPL.out
          simp only [Bool.false_eq_true, if_false] at hpe
          have hp7 : (7 : Int) - s = ((7 - s : Nat) : Int) := by omega
          rw [← hpe] at hp7
          clear hpe HPL
          go_wp2_with fail
          go_roundw
          case rel => exact ⟨k + 1, by omega, by omega, by go_num, by rw [HTF.out], by rw [← HU.out]; exact HST.out _, (HBL.out).setCell (p := ⟨gc, q, none⟩) HGB.out _⟩
          case measure => simp [intOf]; omega
        · have hpe := HPL.out
          simp only [if_true] at hpe
          clear HPL
          subst hpe
          go_wp2_with fail
          go_roundw
          case rel => exact ⟨k + 1, by omega, by omega, by go_num, by rw [HTF.out], by rw [← HU.out]; exact HST.out _, (HBL.out).setCell (p := ⟨gc, q, none⟩) HGB.out _⟩
          case measure => simp [intOf]; omega
      · have htb' : T.testBit k = false := by simpa using htb
        rw [htb'] at hbt HNX HTF
        simp only [Bool.toNat_false, Bool.false_eq_true, if_false] at hbt HNX HTF
        clear htb htb' hown hbel
        go_wp2_with fail
        go_roundw
        case rel => exact ⟨k + 1, by omega, by omega, by go_num, by rw [HTF.out], by rw [HNX.out]; exact HOW.out, HBL.out⟩
        case measure => simp [intOf]; omega
    · have HK : Hid (k = ww ∨ A + k = 8 * n) := by show _ ∨ _; omega
      have HCL := hidD (HFL.out k)
      have HRB : Hid (ByAt wr (.slice (some ⟨gc, 0, none⟩) n cc) (flipTo inn bs A T k)) := by
        have h1 := hown
        rw [show wr.ownsRow w3.heap.size 5 1 (.slice (some ⟨gc, 0, none⟩) n cc) n ((flipTo inn bs A T k).map encB) = wr.ownsRow w3.heap.size 5 1 (.slice (some ⟨gc, 0, none⟩) n cc) (flipTo inn bs A T k).length ((flipTo inn bs A T k).map encB) by rw [HCL.out]] at h1
        exact row_by h1
      have HBW := hidD (Below.next HB3.out hbel)
      have HIFF := hidD (HBS.out k hk hak)
      have HTI := hidD (tflag_iff T k)
      have HSC2 := hidD (fun w' h => HSC.out (flipTo inn bs A T k) (.slice (some ⟨gc, 0, none⟩) n cc) w' HCL.out h)
      generalize flipTo inn bs A T k = FB at *
      generalize hS1 : sumS ⟨nm, ww, P, I, inn, out, X⟩ bs = S1 at *
      generalize hS2 : sumS ⟨nm, ww, P, I, inn, out, X⟩ FB = S2 at *
      generalize hTF : tflag T k = tf at *
      have HEX : Hid (¬ ((k : Int) < ww) ∨ ¬ ((A : Int) + k < 8 * n)) := by show _ ∨ _; have := HK.out; omega
      clear hS1 hS2 hTF hown hlt HTF HNX
      have fin : (((S1 : Int) != (S2 : Int)) == tf) = true := by
        cases tf
        · have : S1 = S2 := HIFF.out.2 (HTI.out.1 rfl)
          simp [this]
        · have : ¬ S1 = S2 := fun h => by have := HTI.out.2 (HIFF.out.1 h); cases this
          have h2 : ¬ (S1 : Int) = (S2 : Int) := by omega
          simp [h2]
      have HFIN := hidD fin
      clear fin
      by_cases hex : (k : Int) < ww
      · have hex2 : ¬ ((A : Int) + k < 8 * n) := by rcases HEX.out with h | h; exact absurd hex h; exact h
        clear HEX
        go_wp2_with (first
          | (go_at_call 10; refine (HSB.out _ HBW.out).mono ?_; rintro e w5 ⟨rfl, hb5⟩; have HB5 := hidD hb5; obtain ⟨p0, p1, p2, p3, p4, p5, p6⟩ := HXR.out.below hb5 (Nat.lt_of_lt_of_le HG.out HBL.out.size); simp only at p0 p1 p2 p3 p4 p5 p6; have HRB5 := hidD (HRB.out.below hb5 (Nat.le_refl _)); clear hb5 HSB)
          | (go_at_call 10; refine (HSC2.out _ HRB5.out).mono ?_; rintro e w6 ⟨rfl, hb6⟩; have HB6 := hidD hb6; clear hb6 HSC2)
          | (go_at_call 11; refine (HN.out _ _).mono ?_; rintro e w7 ⟨rfl, hb7⟩; have HB6 := hidD (Below.next HB6.out hb7); clear hb7))
        go_ret
        exact ⟨by show Ending.returned (Value.bool (((S1 : Int) != (S2 : Int)) == tf)) = _; rw [HFIN.out], Below.next (Below.next HBW.out HB5.out) HB6.out⟩
      · clear HEX
        go_wp2_with (first
          | (go_at_call 10; refine (HSB.out _ HBW.out).mono ?_; rintro e w5 ⟨rfl, hb5⟩; have HB5 := hidD hb5; obtain ⟨p0, p1, p2, p3, p4, p5, p6⟩ := HXR.out.below hb5 (Nat.lt_of_lt_of_le HG.out HBL.out.size); simp only at p0 p1 p2 p3 p4 p5 p6; have HRB5 := hidD (HRB.out.below hb5 (Nat.le_refl _)); clear hb5 HSB)
          | (go_at_call 10; refine (HSC2.out _ HRB5.out).mono ?_; rintro e w6 ⟨rfl, hb6⟩; have HB6 := hidD hb6; clear hb6 HSC2)
          | (go_at_call 11; refine (HN.out _ _).mono ?_; rintro e w7 ⟨rfl, hb7⟩; have HB6 := hidD (Below.next HB6.out hb7); clear hb7))
        go_ret
        exact ⟨by show Ending.returned (Value.bool (((S1 : Int) != (S2 : Int)) == tf)) = _; rw [HFIN.out], Below.next (Below.next HBW.out HB5.out) HB6.out⟩

set_option maxRecDepth 100000 in
set_option maxHeartbeats 1000000 in
theorem bursts_d (m : Md) (hm : MdOk m) (hP : m.P.testBit 0 = true) (bs : List UInt8) (h0 : 0 < bs.length) (hl : bs.length ≤ 140737488355327) (sa : Option Addr) (ca : Nat) (at' : Int) (hat0 : -9223372036854775808 ≤ at') (hat1 : at' ≤ 9223372036854775807) (turn : Nat) (ht : turn < 18446744073709551616) (hneg : 0 ≤ at') (hw64 : m.w = 64) (w : World)
    (hs : ByAt w (.slice sa bs.length ca) bs) : Calls Try.prog 3 #[m.v, .slice sa bs.length ca, .int .i64 at', .int .u64 turn] w fun e w' => e = .returned (.bool true) ∧ Below w.heap.size w w' := by
  have HL := hidD live_any
  have HM : Hid (∀ w, Calls Try.prog 7 #[m.v] w fun e w' => e = .returned m.v ∧ Below w.heap.size w w') := fun w => mine_any ⟨m.name, m.w, m.P, m.I, m.inn, m.out, m.X⟩ w
  have HV : Hid (∀ w, Calls Try.prog 8 #[m.v] w fun e w' => e = .returned (.bool true) ∧ Below w.heap.size w w') := fun w => valid_any ⟨m.name, m.w, m.P, m.I, m.inn, m.out, m.X⟩ hm.raw true (by simp [Md.valid m hm]) w
  have HN := hidD no_any
  have HOWN : Hid (∀ w', Below w.heap.size w w' → Calls Try.prog 9 #[.slice sa bs.length ca] w' fun e w2 => ∃ v, e = .returned v ∧ w2.ownsRow w'.heap.size 5 1 v bs.length (bs.map encB) ∧ Below w'.heap.size w' w2) := fun w' h => own_any bs (by omega) _ w' (hs.below h (Nat.le_refl _))
  have HSB : Hid (∀ w', Below w.heap.size w w' → Calls Try.prog 10 #[m.v, .slice sa bs.length ca] w' fun e w2 => e = .returned (.tuple #[.int .u64 (sumS m bs : Nat), .int .i64 0]) ∧ Below w'.heap.size w' w2) := fun w' h => sum_some m hm _ (by omega) _ w' (hs.below h (Nat.le_refl _))
  have HSC : Hid (∀ (cs : List UInt8) (v : Value) (w' : World), cs.length = bs.length → ByAt w' v cs → Calls Try.prog 10 #[m.v, v] w' fun e w2 => e = .returned (.tuple #[.int .u64 (sumS m cs : Nat), .int .i64 0]) ∧ Below w'.heap.size w' w2) := fun cs v w' hc h => sum_some m hm cs (by omega) _ w' h
  obtain ⟨A, hA⟩ : ∃ A : Nat, A = (at').toNat % (8 * bs.length) := ⟨_, rfl⟩
  have hAl : A < 8 * bs.length := by rw [hA]; exact Nat.mod_lt _ (by omega)
  have hrem : (at').tmod (8 * (bs.length : Int)) = (A : Int) := by
    obtain ⟨z, hz⟩ : ∃ z : Nat, at' = (z : Int) := ⟨(at').toNat, by omega⟩
    rw [Int.tmod_eq_emod_of_nonneg (by omega), hA, hz, Int.toNat_natCast, Int.natCast_emod, Int.natCast_mul]
    rfl
  obtain ⟨T, hT⟩ : ∃ T : Nat, T = turn := ⟨_, rfl⟩
  have hTl : T < 18446744073709551616 := by rw [hT]; exact ht
  have HBS := hidD (fun K hK hat => burst_sum hm hP bs A T K hK hat)
  have hp1 : bits .and .u64 (m.P : Int) 1 = 1 := by
    rw [and1_u64 (Nat.lt_of_lt_of_le hm.P (pow64 hm.hi)), hP]; rfl
  have hwlo := hm.lo
  have hwhi := hm.hi
  have HM0 := hidD (MdAt.new m w 24)
  have HSZ : Hid (w.heap.size < (w.alloc (.cells m.cells 24)).heap.size) := by show _ < _; simp
  have HB0 : Hid (Below w.heap.size w (w.alloc (.cells m.cells 24))) := (Below.refl _ _).alloc (Nat.le_refl _) _
  have HMN : Hid (∀ w : World, MdAt (w.alloc (.cells m.cells 27)) w.heap.size m) := fun w => MdAt.new m w 27
  have hnz : ¬ (bs.length = 0) := by omega
  have hnz2 : ¬ ((bs.length : Int) = 0) := by omega
  have HFL := hidD (fun k => flipTo_length m.inn bs A T k)
  subst hT
  clear hm hP hs hA ht
  obtain ⟨nm, ww, P, I, inn, out, X⟩ := m
  simp only [Md.v, Md.cells] at *
  have c64 : ¬ ((ww : Int) < 64) := by omega
  clear hw64
  generalize hn : bs.length = n at *
  have HNN := hidD hn
  clear hn
  go_enter Try.func3, Try.ntmps3
  go_wp2_with (first
    | (go_at_call 6; refine (HL.out _).mono ?_; rintro e w1 ⟨rfl, hb1⟩; obtain ⟨k0, k1, k2, k3, k4, k5, k6⟩ := HM0.out.below hb1 HSZ.out; have HB1 := hidD (Below.next HB0.out hb1); clear hb1)
    | (go_at_call 7; refine (HM.out _).mono ?_; rintro e w2 ⟨rfl, hb2⟩; have HB2 := hidD (Below.next HB1.out hb2); clear hb2 k0 k1 k2 k3 k4 k5 k6; have HX := hidD (HMN.out w2); have HX0 : Hid (∀ o, w2.heap.size < (w2.alloc o).heap.size) := fun o => by simp)
    | (go_at_call 8; refine (HV.out _).mono ?_; rintro e w3 ⟨rfl, hb3⟩; obtain ⟨q0, q1, q2, q3, q4, q5, q6⟩ := HX.out.below hb3 (HX0.out _); have HG := hidD (Nat.lt_of_lt_of_le (HX0.out _) hb3.size); have HX3 := hidD (HX.out.below hb3 (HX0.out _)); have HB3 := hidD (Below.next (Below.more HB2.out _) hb3); clear hb3)
    | (go_at_call 9; refine (HOWN.out _ HB3.out).mono ?_; rintro e w4 ⟨v4, rfl, hown4, hb4⟩; obtain ⟨gc, cc, rfl, hgb, hgl, _⟩ := row_shapeC hown4 (by omega); have HOW4 := hidD hown4; have HX4 := hidD (HX3.out.below hb4 HG.out); have HB4 := hidD hb4; clear hown4 hb4 q0 q1 q2 q3 q4 q5 q6 hgl))
  generalize w2.heap.size = gx at *
  have HGB := hidD hgb
  clear hgb
  go_loopw [11, 12] (fun b i wr => ∃ k : Nat, k ≤ ww ∧ A + k ≤ 8 * n ∧ i = .int .i64 k ∧ b = .bool (tflag T k) ∧ wr.ownsRow w3.heap.size 5 1 (.slice (some ⟨gc, 0, none⟩) n cc) n ((flipTo inn bs A T k).map encB) ∧ Below w3.heap.size w3 wr) (fun _ i _ => ww - (intOf i).toNat)
  case atStart => exact ⟨0, Nat.zero_le _, by omega, rfl, rfl, HOW4.out, HB4.out⟩
  case round =>
    obtain ⟨k, hk, hak, rfl, rfl, hown, hbel⟩ := hrel
    have HBL := hidD hbel
    have HOW := hidD hown
    have HXR := hidD (HX3.out.below hbel HG.out)
    obtain ⟨q0, q1, q2, q3, q4, q5, q6⟩ := HX3.out.below hbel HG.out
    simp only at q0 q1 q2 q3 q4 q5 q6
    have HNX : Hid (flipTo inn bs A T (k + 1) = if T.testBit k then flipAt inn (flipTo inn bs A T k) (A + k) else flipTo inn bs A T k) := rfl
    have HTF : Hid (tflag T (k + 1) = if T.testBit k then true else tflag T k) := rfl
    have hw47 : n ≤ 140737488355327 := hl
    by_cases hlt : k < ww ∧ A + k < 8 * n
    · obtain ⟨hkw, hkn⟩ := hlt
      have c1 : (k : Int) < ww := by omega
      have c2 : (A : Int) + k < 8 * n := by omega
      have hbt := bit_u64 k hTl
      have hk64 : k ≤ 64 := by omega
      by_cases htb : T.testBit k = true
      · rw [htb] at hbt HNX HTF
        simp only [Bool.toNat_true, if_true] at hbt HNX HTF
        obtain ⟨q, hq⟩ : ∃ q, q = (A + k) / 8 := ⟨_, rfl⟩
        obtain ⟨s, hs⟩ : ∃ s, s = (A + k) % 8 := ⟨_, rfl⟩
        have hq1 : ((A : Int) + k).tdiv 8 = (q : Int) := by rw [Int.tdiv_eq_ediv_of_nonneg (by omega), hq]; omega
        have hs1 : ((A : Int) + k).tmod 8 = (s : Int) := by rw [Int.tmod_eq_emod_of_nonneg (by omega), hs]; omega
        have hqn : q < n := by omega
        have hqni : (q : Int) < n := by omega
        have hs8 : s < 8 := by omega
        have hFq : q < (flipTo inn bs A T k).length := by rw [HFL.out k]; exact hqn
        have HU : Hid (((flipTo inn bs A T k).map encB).set q (.int .u8 (((flipTo inn bs A T k).getD q 0).toNat ^^^ 2 ^ plc inn (A + k) : Nat)) = (flipTo inn bs A T (k + 1)).map encB) := by
          show _ = _
          rw [HNX.out, flipAt, List.map_set, ← hq]
          congr 1
          unfold encB
          rw [flip_byte]
        have hce : wr.cell? ⟨gc, q, none⟩ = some (.int .u8 (((flipTo inn bs A T k).getD q 0).toNat : Int)) := by
          rw [hown.cellAt q (by omega), List.getElem?_map, List.getElem?_eq_getElem hFq, List.getD_eq_getElem?_getD, List.getElem?_eq_getElem hFq]; rfl
        have hfr := hown.frozenAt q
        have HST := hidD (fun u => (hown.stored q u).1)
        have hx8 := ((flipTo inn bs A T k).getD q 0).toNat_lt
        obtain ⟨pl, hpl⟩ : ∃ pl, pl = plc inn (A + k) := ⟨_, rfl⟩
        have hpl8 : pl < 8 := by rw [hpl]; exact plc_lt _ _
        rw [← hpl] at HU
        have hsh : (2 : Int) ^ pl % 256 = ((2 ^ pl : Nat) : Int) := by
          have h2 : 2 ^ pl < 2 ^ 8 := Nat.pow_lt_pow_right (by omega) hpl8
          rw [Int.emod_eq_of_lt (by exact_mod_cast Nat.zero_le _) (by exact_mod_cast h2)]; simp
        have hxo : bits .xor .u8 (((flipTo inn bs A T k).getD q 0).toNat : Int) ((2 ^ pl : Nat) : Int) = ((((flipTo inn bs A T k).getD q 0).toNat ^^^ 2 ^ pl : Nat) : Int) := u8_xor_nat _ _ hx8 (Nat.pow_lt_pow_right (n := 8) (by omega) hpl8)
        have hplI : pl ≤ 8 := by omega
        have HPL : Hid (pl = if inn then s else 7 - s) := by show _ = _; rw [hpl, hs]; rfl
        clear hown hbel hq hs hpl hFq hx8
        generalize ((flipTo inn bs A T k).getD q 0).toNat ^^^ 2 ^ pl = XV at *
        generalize ((flipTo inn bs A T k).getD q 0).toNat = xv at *
        generalize ((2 ^ pl : Nat) : Int) = PW at *
        cases inn
        · have hpe := HPL.out
          simp only [Bool.false_eq_true, if_false] at hpe
          have hp7 : (7 : Int) - s = ((7 - s : Nat) : Int) := by omega
          rw [← hpe] at hp7
          clear hpe HPL
          go_wp2_with fail
          go_roundw
          case rel => exact ⟨k + 1, by omega, by omega, by go_num, by rw [HTF.out], by rw [← HU.out]; exact HST.out _, (HBL.out).setCell (p := ⟨gc, q, none⟩) HGB.out _⟩
          case measure => simp [intOf]; omega
        · have hpe := HPL.out
          simp only [if_true] at hpe
          clear HPL
          subst hpe
          go_wp2_with fail
          go_roundw
          case rel => exact ⟨k + 1, by omega, by omega, by go_num, by rw [HTF.out], by rw [← HU.out]; exact HST.out _, (HBL.out).setCell (p := ⟨gc, q, none⟩) HGB.out _⟩
          case measure => simp [intOf]; omega
      · have htb' : T.testBit k = false := by simpa using htb
        rw [htb'] at hbt HNX HTF
        simp only [Bool.toNat_false, Bool.false_eq_true, if_false] at hbt HNX HTF
        clear htb htb' hown hbel
        go_wp2_with fail
        go_roundw
        case rel => exact ⟨k + 1, by omega, by omega, by go_num, by rw [HTF.out], by rw [HNX.out]; exact HOW.out, HBL.out⟩
        case measure => simp [intOf]; omega
    · have HK : Hid (k = ww ∨ A + k = 8 * n) := by show _ ∨ _; omega
      have HCL := hidD (HFL.out k)
      have HRB : Hid (ByAt wr (.slice (some ⟨gc, 0, none⟩) n cc) (flipTo inn bs A T k)) := by
        have h1 := hown
        rw [show wr.ownsRow w3.heap.size 5 1 (.slice (some ⟨gc, 0, none⟩) n cc) n ((flipTo inn bs A T k).map encB) = wr.ownsRow w3.heap.size 5 1 (.slice (some ⟨gc, 0, none⟩) n cc) (flipTo inn bs A T k).length ((flipTo inn bs A T k).map encB) by rw [HCL.out]] at h1
        exact row_by h1
      have HBW := hidD (Below.next HB3.out hbel)
      have HIFF := hidD (HBS.out k hk hak)
      have HTI := hidD (tflag_iff T k)
      have HSC2 := hidD (fun w' h => HSC.out (flipTo inn bs A T k) (.slice (some ⟨gc, 0, none⟩) n cc) w' HCL.out h)
      generalize flipTo inn bs A T k = FB at *
      generalize hS1 : sumS ⟨nm, ww, P, I, inn, out, X⟩ bs = S1 at *
      generalize hS2 : sumS ⟨nm, ww, P, I, inn, out, X⟩ FB = S2 at *
      generalize hTF : tflag T k = tf at *
      have HEX : Hid (¬ ((k : Int) < ww) ∨ ¬ ((A : Int) + k < 8 * n)) := by show _ ∨ _; have := HK.out; omega
      clear hS1 hS2 hTF hown hlt HTF HNX
      have fin : (((S1 : Int) != (S2 : Int)) == tf) = true := by
        cases tf
        · have : S1 = S2 := HIFF.out.2 (HTI.out.1 rfl)
          simp [this]
        · have : ¬ S1 = S2 := fun h => by have := HTI.out.2 (HIFF.out.1 h); cases this
          have h2 : ¬ (S1 : Int) = (S2 : Int) := by omega
          simp [h2]
      have HFIN := hidD fin
      clear fin
      by_cases hex : (k : Int) < ww
      · have hex2 : ¬ ((A : Int) + k < 8 * n) := by rcases HEX.out with h | h; exact absurd hex h; exact h
        clear HEX
        go_wp2_with (first
          | (go_at_call 10; refine (HSB.out _ HBW.out).mono ?_; rintro e w5 ⟨rfl, hb5⟩; have HB5 := hidD hb5; obtain ⟨p0, p1, p2, p3, p4, p5, p6⟩ := HXR.out.below hb5 (Nat.lt_of_lt_of_le HG.out HBL.out.size); simp only at p0 p1 p2 p3 p4 p5 p6; have HRB5 := hidD (HRB.out.below hb5 (Nat.le_refl _)); clear hb5 HSB)
          | (go_at_call 10; refine (HSC2.out _ HRB5.out).mono ?_; rintro e w6 ⟨rfl, hb6⟩; have HB6 := hidD hb6; clear hb6 HSC2)
          | (go_at_call 11; refine (HN.out _ _).mono ?_; rintro e w7 ⟨rfl, hb7⟩; have HB6 := hidD (Below.next HB6.out hb7); clear hb7))
        go_ret
        exact ⟨by show Ending.returned (Value.bool (((S1 : Int) != (S2 : Int)) == tf)) = _; rw [HFIN.out], Below.next (Below.next HBW.out HB5.out) HB6.out⟩
      · clear HEX
        go_wp2_with (first
          | (go_at_call 10; refine (HSB.out _ HBW.out).mono ?_; rintro e w5 ⟨rfl, hb5⟩; have HB5 := hidD hb5; obtain ⟨p0, p1, p2, p3, p4, p5, p6⟩ := HXR.out.below hb5 (Nat.lt_of_lt_of_le HG.out HBL.out.size); simp only at p0 p1 p2 p3 p4 p5 p6; have HRB5 := hidD (HRB.out.below hb5 (Nat.le_refl _)); clear hb5 HSB)
          | (go_at_call 10; refine (HSC2.out _ HRB5.out).mono ?_; rintro e w6 ⟨rfl, hb6⟩; have HB6 := hidD hb6; clear hb6 HSC2)
          | (go_at_call 11; refine (HN.out _ _).mono ?_; rintro e w7 ⟨rfl, hb7⟩; have HB6 := hidD (Below.next HB6.out hb7); clear hb7))
        go_ret
        exact ⟨by show Ending.returned (Value.bool (((S1 : Int) != (S2 : Int)) == tf)) = _; rw [HFIN.out], Below.next (Below.next HBW.out HB5.out) HB6.out⟩

theorem bursts_any (m : Mw) (hm : MwOk m) (bs : List UInt8) (hl : bs.length ≤ 140737488355327) (sa : Option Addr) (ca : Nat) (at' : Int) (hat0 : -9223372036854775808 ≤ at') (hat1 : at' ≤ 9223372036854775807) (turn : Nat) (ht : turn < 18446744073709551616) (w : World)
    (hs : ByAt w (.slice sa bs.length ca) bs) : Calls Try.prog 3 #[m.v, .slice sa bs.length ca, .int .i64 at', .int .u64 turn] w fun e w' => e = .returned (.bool true) ∧ Below w.heap.size w w' := by
  by_cases ho : ¬ m.Valid ∨ m.P.testBit 0 = false ∨ bs.length = 0
  · exact bursts_out m hm bs (by omega) ho sa ca at' turn w
  · have hv : m.Valid := by
      by_cases h : m.Valid
      · exact h
      · exact absurd (.inl h) ho
    have hP : m.md.P.testBit 0 = true := by
      cases h : m.md.P.testBit 0
      · exact absurd (.inr (.inl h)) ho
      · rfl
    have h0 : 0 < bs.length := by
      rcases Nat.eq_zero_or_pos bs.length with h | h
      · exact absurd (.inr (.inr h)) ho
      · exact h
    rw [hv.v]
    have h64 := hv.2.2.hi
    by_cases h1 : at' < 0
    · by_cases h2 : m.md.w < 64
      · exact bursts_a m.md hv.2.2 hP bs h0 hl sa ca at' hat0 hat1 turn ht h1 h2 w hs
      · exact bursts_b m.md hv.2.2 hP bs h0 hl sa ca at' hat0 hat1 turn ht h1 (by omega) w hs
    · by_cases h2 : m.md.w < 64
      · exact bursts_c m.md hv.2.2 hP bs h0 hl sa ca at' hat0 hat1 turn ht (by omega) h2 w hs
      · exact bursts_d m.md hv.2.2 hP bs h0 hl sa ca at' hat0 hat1 turn ht (by omega) (by omega) w hs
end Go.Proofs.Ytjhaaphgaplhlab
