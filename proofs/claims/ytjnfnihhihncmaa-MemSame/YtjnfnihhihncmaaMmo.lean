/- MemBears: what is read between two turns. -/
import Derived.Test.YtjnfnihhihncmaaMmn
namespace Go.Proofs.Ytjnfnihhihncmaa
open Go.RowKit
set_option linter.unusedVariables false

def IlAt (w : World) (v : Value) (l : List Int) : Prop := ∃ a cap, v = .slice a l.length cap ∧ l.length ≤ cap ∧ cap ≤ 9223372036854775807 ∧ ∀ k, k < l.length → ∃ g o, a = some ⟨g, o, none⟩ ∧ g < w.heap.size ∧ w.cell? ⟨g, o + k, none⟩ = some (.int .i64 (l.getD k 0))
theorem IlAt.nil (w : World) : IlAt w (.slice none 0 0) [] := ⟨none, 0, rfl, Nat.le_refl _, by omega, fun k hk => absurd hk (by simp)⟩
def bR : List Rgn := [(16, 80, 1)]
theorem bR_ok : ∀ x ∈ bR, okR x := by unfold okR; decide
theorem bR_over : ¬ overR bR := fun ⟨i, h, hv⟩ => by have h' : i + 1 < 1 := h; omega
theorem bR_at (A : Nat) (h : 16 ≤ A ∧ A < 80) : rgo bR (A : Int) = ((16, 80, 1), 0) := by
  have h1 : (0 : Int) ≤ A ∧ (A : Int) < 65536 := by omega
  have h2 : (16 : Int) ≤ A ∧ (A : Int) < 80 := by omega
  unfold rgo bR findR
  rw [if_pos h1, if_pos h2]
theorem enc_told (b : Nat) : rdE (encZ b) = 0 ∧ (decS (encZ b)).1 = b ∧ mX (encZ b) = 0 ∧ mY (encZ b) = 0 := by
  have := dec_enc b
  refine ⟨?_, ?_, ?_, ?_⟩ <;> simp [rdE, mX, mY, this]
theorem tur_told (b a : Nat) (ha : a < 13) : rdE (turZ (encZ b) a) = 0 ∧ (decS (turZ (encZ b) a)).1 = b ∧ mX (turZ (encZ b) a) = 1 ∧ mY (turZ (encZ b) a) = 0 := by
  have := dec_tur b a ha
  refine ⟨?_, ?_, ?_, ?_⟩ <;> by_cases h : a < 8 <;> simp [rdE, mX, mY, this, h]
theorem tur2_told (b a c : Nat) (hb : b < 256) (ha : a < 13) (hc : c < 13) (hac : a ≠ c) : rdE (turZ (turZ (encZ b) a) c) = 232 ∧ (decS (turZ (turZ (encZ b) a) c)).1 = 0 ∧ mX (turZ (turZ (encZ b) a) c) = 0 ∧ mY (turZ (turZ (encZ b) a) c) = 1 := by
  have := dec_tur2 b a c hb ha hc hac
  refine ⟨?_, ?_, ?_, ?_⟩ <;> simp [rdE, mX, mY, this]
theorem hv_turnNo {w0 w : World} {k : Mk} {R : List Rgn} {Z : Nat → Nat × Nat} {x y : Int} (h : Hv w0 k R Z x y w) (a : Nat) (ha : a < 65536) (b : Int) (hb : b < 0 ∨ 12 < b) :
    Calls Try.prog 22 #[.pointer (some ⟨k.m, 0, none⟩), .int .i64 a, .int .i64 b] w fun e w' => e = .returned (.int .i64 1) ∧ Hv w0 k R Z x y w' :=
  (memTurn_no h.me a ha b hb).mono fun e w' ⟨h1, h2⟩ => ⟨h1, h.next h2⟩
set_option maxRecDepth 100000 in
set_option maxHeartbeats 6400000 in
theorem bears_any (B : List UInt8) (hB : B.length ≤ 140737488355328) (bits : List Int) (hbl : bits.length ≤ 140737488355328) (other : Int) (ho : -9223372036854775808 ≤ other ∧ other ≤ 9223372036854775807) (vb vi : Value) (w : World) (hvb : ByAt w vb B) (hvi : IlAt w vi bits) :
    Calls Try.prog 5 #[vb, vi, .int .i64 other] w fun e w' => e = .returned (.bool true) ∧ Below w.heap.size w w' := by
  have HAL := hidD (fun w => alive_any w)
  have HNW : Hid (∀ w1, Calls Try.prog 9 #[.slice (some ⟨w1.heap.size, 0, none⟩) 1 1] (w1.alloc (.cells #[.int .i64 16, .int .i64 80, .int .i64 1] (35 : TypeId))) fun e w' => ∃ k : Mk, e = .returned (.tuple #[.pointer (some ⟨k.m, 0, none⟩), .int .i64 0]) ∧ Hv w1 k bR (fun _ => (0, 0)) 0 0 w') := fun w1 =>
    (hv_new bR bR (by decide) _ _ (row_rs (g := w1.heap.size) (cap := 1) (L := bR) (heap_alloc_last w1 (.cells #[.int .i64 16, .int .i64 80, .int .i64 1] (35 : TypeId)))) bR_ok (List.Perm.refl _) (by decide) bR_over).mono fun e w' ⟨k, h1, h2⟩ => ⟨k, h1, h2.frame (pin_map _)⟩
  obtain ⟨ba, bc, rfl, hbc⟩ := hvb.shape
  obtain ⟨ia, ic, rfl, -, -, hic⟩ := hvi
  have HBC := hidD hbc
  have HIC := hidD hic
  clear hvb hbc hic
  go_enter Try.func5, Try.ntmps5
  go_wp2_with (first
    | (go_at_call 11; refine (HAL.out _).mono ?_; rintro e w1 ⟨rfl, hb⟩; have B1 := hidD hb; clear hb)
    | (go_at_call 9; refine (HNW.out _).mono ?_; rintro e w2 ⟨k, rfl, hv1⟩; have HV2 := hidD (hv1.frame B1.out); clear hv1))
  go_loopw [9, 10] (fun t i wr => ∃ (n x : Nat) (Z : Nat → Nat × Nat), n ≤ B.length ∧ x ≤ n ∧ i = .int .i64 n ∧ t = .int .i64 x ∧ Hv w k bR Z x 0 wr) (fun _ i _ => B.length - (intOf i).toNat)
  case atStart => exact ⟨0, 0, _, Nat.zero_le _, Nat.le_refl _, rfl, rfl, HV2.out⟩
  case round =>
    obtain ⟨n, x, Z, hn, hxn, rfl, rfl, hvr⟩ := hrel
    have HVR := hidD hvr
    have HXN := hidD hxn
    clear hvr hxn
    by_cases hlt : n < B.length
    · have hlti : (n : Int) < B.length := by omega
      obtain ⟨g, o, rfl, hg, hcell⟩ := HBC.out n hlt
      have e0 := (HVR.out.bel.cell (p := ⟨g, o + n, none⟩) hg).trans hcell
      obtain ⟨A, hA⟩ : ∃ A : Nat, 16 + (n : Int) % 64 = (A : Int) := ⟨16 + n % 64, by omega⟩
      have hAr : 16 ≤ A ∧ A < 80 := by omega
      have HAQ := hidD (bR_at A hAr)
      have hb := UInt8.toNat_lt (B.getD n 0)
      have hxb : (x : Int) ≤ 140737488355328 := by have := HXN.out; omega
      generalize (B.getD n 0).toNat = b at *
      have C1 : Hid (Calls Try.prog 20 #[.pointer (some ⟨k.m, 0, none⟩), .int .i64 (A : Int), .int .u8 (b : Int)] wr fun e w' => e = .returned (.int .i64 0) ∧ Hv w k bR (upd Z A (encZ b)) x 0 w') := hv_write HVR.out A 16 80 HAQ.out b hb
      have HA6 : Hid (A < 65536) := by show A < 65536; omega
      clear hAr hb
      by_cases hin : n < bits.length
      · have hini : (n : Int) < bits.length := by omega
        obtain ⟨gi, oi, rfl, hgi, hci⟩ := HIC.out n hin
        generalize bits.getD n 0 = bt at *
        by_cases hgood : 0 ≤ bt ∧ bt ≤ 12
        · obtain ⟨c, rfl⟩ : ∃ c : Nat, bt = c := ⟨bt.toNat, by omega⟩
          have hc : c < 13 := by omega
          have hc1 : (0 : Int) ≤ c := hgood.1
          have hc2 : (c : Int) ≤ 12 := hgood.2
          go_wp2_with (first
            | (go_at_call 20; refine C1.out.mono ?_; rintro e w3 ⟨rfl, hv3⟩; clear C1 hA
               have f3 := (hv3.bel.cell (p := ⟨gi, oi + n, none⟩) hgi).trans hci
               have C2 : Hid (Calls Try.prog 22 #[.pointer (some ⟨k.m, 0, none⟩), .int .i64 (A : Int), .int .i64 (c : Int)] w3 fun e w' => e = .returned (.int .i64 0) ∧ Hv w k bR (upd Z A (turZ (encZ b) c)) x 0 w') := by
                 have := hv_turn hv3 A 16 80 1 HAQ.out (Or.inl rfl) c hc
                 rw [upd_same, upd_upd] at this; exact this
               clear hv3)
            | (go_at_call 22; refine C2.out.mono ?_; rintro e w4 ⟨rfl, hv4⟩; clear C2
               have C3 : Hid (Calls Try.prog 17 #[.pointer (some ⟨k.m, 0, none⟩), .int .i64 (A : Int)] w4 fun e w' => e = .returned (.tuple #[.int .u8 (b : Int), .int .i64 0]) ∧ Hv w k bR (upd Z A (turZ (encZ b) c)) x 0 w') := by
                 have := hv_peek hv4 A 16 80 1 HAQ.out (Or.inl rfl)
                 rw [upd_same, (tur_told b c hc).1, (tur_told b c hc).2.1] at this; exact this
               clear hv4)
            | (go_at_call 17; refine C3.out.mono ?_; rintro e w5 ⟨rfl, hv5⟩; clear C3
               have C4 : Hid (Calls Try.prog 16 #[.pointer (some ⟨k.m, 0, none⟩), .int .i64 (A : Int)] w5 fun e w' => e = .returned (.tuple #[.int .u8 (b : Int), .int .i64 0]) ∧ Hv w k bR (upd (upd Z A (turZ (encZ b) c)) A (mdZ (turZ (encZ b) c))) ((x : Int) + 1) 0 w') := by
                 have := hv_read hv5 A 16 80 1 HAQ.out (Or.inl rfl) (by omega) (by omega)
                 rw [upd_same, (tur_told b c hc).1, (tur_told b c hc).2.1, (tur_told b c hc).2.2.1, (tur_told b c hc).2.2.2, Int.add_zero] at this; exact this
               clear hv5)
            | (go_at_call 16; refine C4.out.mono ?_; rintro e w6 ⟨rfl, hv6⟩; clear C4
               have C5 : Hid (Calls Try.prog 14 #[.pointer (some ⟨k.m, 0, none⟩)] w6 fun e w' => e = .returned (.tuple #[.int .i64 ((x : Int) + 1), .int .i64 0]) ∧ Hv w k bR (upd (upd Z A (turZ (encZ b) c)) A (mdZ (turZ (encZ b) c))) ((x : Int) + 1) 0 w') := hv_counts hv6
               clear hv6)
            | (go_at_call 14; refine C5.out.mono ?_; rintro e w7 ⟨rfl, hv7⟩; clear C5
               have e7 := (hv7.bel.cell (p := ⟨g, o + n, none⟩) hg).trans hcell
               have HV7 := hidD hv7
               clear hv7))
          exact ⟨⟨n + 1, x + 1, _, by omega, by have := HXN.out; omega, by simp, by simp, HV7.out⟩, by simp [intOf]; omega⟩
        · by_cases h0 : 0 ≤ bt
          · have h12 : ¬ bt ≤ 12 := by omega
            have hd : decide (bt ≤ 12) = false := decide_eq_false h12
            have hd0 : decide (0 ≤ bt) = true := decide_eq_true h0
            clear hgood
            go_wp2_with (first
              | (go_at_call 20; refine C1.out.mono ?_; rintro e w3 ⟨rfl, hv3⟩; clear C1 hA
                 have f3 := (hv3.bel.cell (p := ⟨gi, oi + n, none⟩) hgi).trans hci
                 have C2 : Hid (Calls Try.prog 22 #[.pointer (some ⟨k.m, 0, none⟩), .int .i64 (A : Int), .int .i64 bt] w3 fun e w' => e = .returned (.int .i64 1) ∧ Hv w k bR (upd Z A (encZ b)) x 0 w') := hv_turnNo hv3 A HA6.out bt (by omega)
                 clear hv3)
              | (go_at_call 22; refine C2.out.mono ?_; rintro e w4 ⟨rfl, hv4⟩; clear C2
                 have C3 : Hid (Calls Try.prog 17 #[.pointer (some ⟨k.m, 0, none⟩), .int .i64 (A : Int)] w4 fun e w' => e = .returned (.tuple #[.int .u8 (b : Int), .int .i64 0]) ∧ Hv w k bR (upd Z A (encZ b)) x 0 w') := by
                   have := hv_peek hv4 A 16 80 1 HAQ.out (Or.inl rfl)
                   rw [upd_same, (enc_told b).1, (enc_told b).2.1] at this; exact this
                 clear hv4)
              | (go_at_call 17; refine C3.out.mono ?_; rintro e w5 ⟨rfl, hv5⟩; clear C3
                 have C4 : Hid (Calls Try.prog 16 #[.pointer (some ⟨k.m, 0, none⟩), .int .i64 (A : Int)] w5 fun e w' => e = .returned (.tuple #[.int .u8 (b : Int), .int .i64 0]) ∧ Hv w k bR (upd (upd Z A (encZ b)) A (mdZ (encZ b))) (x : Int) 0 w') := by
                   have := hv_read hv5 A 16 80 1 HAQ.out (Or.inl rfl) (by omega) (by omega)
                   rw [upd_same, (enc_told b).1, (enc_told b).2.1, (enc_told b).2.2.1, (enc_told b).2.2.2, Int.add_zero, Int.add_zero] at this; exact this
                 clear hv5)
              | (go_at_call 16; refine C4.out.mono ?_; rintro e w6 ⟨rfl, hv6⟩; clear C4
                 have C5 : Hid (Calls Try.prog 14 #[.pointer (some ⟨k.m, 0, none⟩)] w6 fun e w' => e = .returned (.tuple #[.int .i64 (x : Int), .int .i64 0]) ∧ Hv w k bR (upd (upd Z A (encZ b)) A (mdZ (encZ b))) (x : Int) 0 w') := hv_counts hv6
                 clear hv6)
              | (go_at_call 14; refine C5.out.mono ?_; rintro e w7 ⟨rfl, hv7⟩; clear C5
                 have e7 := (hv7.bel.cell (p := ⟨g, o + n, none⟩) hg).trans hcell
                 have HV7 := hidD hv7
                 clear hv7))
            exact ⟨⟨n + 1, x, _, by omega, by have := HXN.out; omega, by simp, rfl, HV7.out⟩, by simp [intOf]; omega⟩
          · have hd0 : decide (0 ≤ bt) = false := decide_eq_false h0
            clear hgood
            go_wp2_with (first
              | (go_at_call 20; refine C1.out.mono ?_; rintro e w3 ⟨rfl, hv3⟩; clear C1 hA
                 have f3 := (hv3.bel.cell (p := ⟨gi, oi + n, none⟩) hgi).trans hci
                 have C2 : Hid (Calls Try.prog 22 #[.pointer (some ⟨k.m, 0, none⟩), .int .i64 (A : Int), .int .i64 bt] w3 fun e w' => e = .returned (.int .i64 1) ∧ Hv w k bR (upd Z A (encZ b)) x 0 w') := hv_turnNo hv3 A HA6.out bt (by omega)
                 clear hv3)
              | (go_at_call 22; refine C2.out.mono ?_; rintro e w4 ⟨rfl, hv4⟩; clear C2
                 have C3 : Hid (Calls Try.prog 17 #[.pointer (some ⟨k.m, 0, none⟩), .int .i64 (A : Int)] w4 fun e w' => e = .returned (.tuple #[.int .u8 (b : Int), .int .i64 0]) ∧ Hv w k bR (upd Z A (encZ b)) x 0 w') := by
                   have := hv_peek hv4 A 16 80 1 HAQ.out (Or.inl rfl)
                   rw [upd_same, (enc_told b).1, (enc_told b).2.1] at this; exact this
                 clear hv4)
              | (go_at_call 17; refine C3.out.mono ?_; rintro e w5 ⟨rfl, hv5⟩; clear C3
                 have C4 : Hid (Calls Try.prog 16 #[.pointer (some ⟨k.m, 0, none⟩), .int .i64 (A : Int)] w5 fun e w' => e = .returned (.tuple #[.int .u8 (b : Int), .int .i64 0]) ∧ Hv w k bR (upd (upd Z A (encZ b)) A (mdZ (encZ b))) (x : Int) 0 w') := by
                   have := hv_read hv5 A 16 80 1 HAQ.out (Or.inl rfl) (by omega) (by omega)
                   rw [upd_same, (enc_told b).1, (enc_told b).2.1, (enc_told b).2.2.1, (enc_told b).2.2.2, Int.add_zero, Int.add_zero] at this; exact this
                 clear hv5)
              | (go_at_call 16; refine C4.out.mono ?_; rintro e w6 ⟨rfl, hv6⟩; clear C4
                 have C5 : Hid (Calls Try.prog 14 #[.pointer (some ⟨k.m, 0, none⟩)] w6 fun e w' => e = .returned (.tuple #[.int .i64 (x : Int), .int .i64 0]) ∧ Hv w k bR (upd (upd Z A (encZ b)) A (mdZ (encZ b))) (x : Int) 0 w') := hv_counts hv6
                 clear hv6)
              | (go_at_call 14; refine C5.out.mono ?_; rintro e w7 ⟨rfl, hv7⟩; clear C5
                 have e7 := (hv7.bel.cell (p := ⟨g, o + n, none⟩) hg).trans hcell
                 have HV7 := hidD hv7
                 clear hv7))
            exact ⟨⟨n + 1, x, _, by omega, by have := HXN.out; omega, by simp, rfl, HV7.out⟩, by simp [intOf]; omega⟩
      · have hini : ¬ (n : Int) < bits.length := by omega
        go_wp2_with (first
          | (go_at_call 20; refine C1.out.mono ?_; rintro e w3 ⟨rfl, hv3⟩; clear C1 hA
             have C2 : Hid (Calls Try.prog 22 #[.pointer (some ⟨k.m, 0, none⟩), .int .i64 (A : Int), .int .i64 (-1)] w3 fun e w' => e = .returned (.int .i64 1) ∧ Hv w k bR (upd Z A (encZ b)) x 0 w') := hv_turnNo hv3 A HA6.out (-1) (by omega)
             clear hv3)
          | (go_at_call 22; refine C2.out.mono ?_; rintro e w4 ⟨rfl, hv4⟩; clear C2
             have C3 : Hid (Calls Try.prog 17 #[.pointer (some ⟨k.m, 0, none⟩), .int .i64 (A : Int)] w4 fun e w' => e = .returned (.tuple #[.int .u8 (b : Int), .int .i64 0]) ∧ Hv w k bR (upd Z A (encZ b)) x 0 w') := by
               have := hv_peek hv4 A 16 80 1 HAQ.out (Or.inl rfl)
               rw [upd_same, (enc_told b).1, (enc_told b).2.1] at this; exact this
             clear hv4)
          | (go_at_call 17; refine C3.out.mono ?_; rintro e w5 ⟨rfl, hv5⟩; clear C3
             have C4 : Hid (Calls Try.prog 16 #[.pointer (some ⟨k.m, 0, none⟩), .int .i64 (A : Int)] w5 fun e w' => e = .returned (.tuple #[.int .u8 (b : Int), .int .i64 0]) ∧ Hv w k bR (upd (upd Z A (encZ b)) A (mdZ (encZ b))) (x : Int) 0 w') := by
               have := hv_read hv5 A 16 80 1 HAQ.out (Or.inl rfl) (by omega) (by omega)
               rw [upd_same, (enc_told b).1, (enc_told b).2.1, (enc_told b).2.2.1, (enc_told b).2.2.2, Int.add_zero, Int.add_zero] at this; exact this
             clear hv5)
          | (go_at_call 16; refine C4.out.mono ?_; rintro e w6 ⟨rfl, hv6⟩; clear C4
             have C5 : Hid (Calls Try.prog 14 #[.pointer (some ⟨k.m, 0, none⟩)] w6 fun e w' => e = .returned (.tuple #[.int .i64 (x : Int), .int .i64 0]) ∧ Hv w k bR (upd (upd Z A (encZ b)) A (mdZ (encZ b))) (x : Int) 0 w') := hv_counts hv6
             clear hv6)
          | (go_at_call 14; refine C5.out.mono ?_; rintro e w7 ⟨rfl, hv7⟩; clear C5
             have e7 := (hv7.bel.cell (p := ⟨g, o + n, none⟩) hg).trans hcell
             have HV7 := hidD hv7
             clear hv7))
        exact ⟨⟨n + 1, x, _, by omega, by have := HXN.out; omega, by simp, rfl, HV7.out⟩, by simp [intOf]; omega⟩
    · have hnl : ¬ (n : Int) < B.length := by omega
      have hxb : (x : Int) ≤ 140737488355328 := by have := HXN.out; omega
      obtain ⟨r, hr⟩ : ∃ r, other.tmod 13 = r := ⟨_, rfl⟩
      have hr1 := Int.lt_tmod_of_pos other (b := 13) (by decide)
      have hr2 := Int.tmod_lt_of_pos other (b := 13) (by decide)
      rw [hr] at hr1 hr2
      obtain ⟨f, hf⟩ : ∃ f : Nat, (r + 13) % 13 = (f : Int) := ⟨((r + 13) % 13).toNat, by omega⟩
      have hf2 : (r + 13).tmod 13 = (f : Int) := by rw [Int.tmod_eq_emod_of_nonneg (by omega)]; exact hf
      have hfl : f < 13 := by omega
      obtain ⟨g, hg⟩ : ∃ g : Nat, ((f : Int) + 1) % 13 = (g : Int) := ⟨(f + 1) % 13, by omega⟩
      have hgl : g < 13 := by omega
      have hfg : f ≠ g := by omega
      have hr3 : -13 < r := by omega
      have C1 : Hid (Calls Try.prog 20 #[.pointer (some ⟨k.m, 0, none⟩), .int .i64 20, .int .u8 77] wr fun e w' => e = .returned (.int .i64 0) ∧ Hv w k bR (upd Z 20 (encZ 77)) x 0 w') := hv_write HVR.out 20 16 80 (bR_at 20 (by decide)) 77 (by decide)
      clear hr1
      go_wp2_with (first
        | (go_at_call 20; refine C1.out.mono ?_; rintro e w3 ⟨rfl, hv3⟩; clear C1
           have C2 : Hid (Calls Try.prog 22 #[.pointer (some ⟨k.m, 0, none⟩), .int .i64 20, .int .i64 (f : Int)] w3 fun e w' => e = .returned (.int .i64 0) ∧ Hv w k bR (upd Z 20 (turZ (encZ 77) f)) x 0 w') := by
             have := hv_turn hv3 20 16 80 1 (bR_at 20 (by decide)) (Or.inl rfl) f hfl
             rw [upd_same, upd_upd] at this; exact this
           clear hv3)
        | (go_at_call 22; refine C2.out.mono ?_; rintro e w4 ⟨rfl, hv4⟩; clear C2
           have C3 : Hid (Calls Try.prog 22 #[.pointer (some ⟨k.m, 0, none⟩), .int .i64 20, .int .i64 (g : Int)] w4 fun e w' => e = .returned (.int .i64 0) ∧ Hv w k bR (upd Z 20 (turZ (turZ (encZ 77) f) g)) x 0 w') := by
             have := hv_turn hv4 20 16 80 1 (bR_at 20 (by decide)) (Or.inl rfl) g hgl
             rw [upd_same, upd_upd] at this; exact this
           clear hv4)
        | (go_at_call 22; refine C3.out.mono ?_; rintro e w5 ⟨rfl, hv5⟩; clear C3
           have C4 : Hid (Calls Try.prog 16 #[.pointer (some ⟨k.m, 0, none⟩), .int .i64 20] w5 fun e w' => e = .returned (.tuple #[.int .u8 0, .int .i64 232]) ∧ ∃ Z4, Hv w k bR Z4 x 1 w') := by
             have := hv_read hv5 20 16 80 1 (bR_at 20 (by decide)) (Or.inl rfl) (by omega) (by omega)
             have ht := tur2_told 77 f g (by decide) hfl hgl hfg
             rw [upd_same, ht.1, ht.2.1, ht.2.2.1, ht.2.2.2, Int.add_zero] at this
             exact this.mono fun e w' ⟨h1, h2⟩ => ⟨h1, _, h2⟩
           clear hv5)
        | (go_at_call 16; refine C4.out.mono ?_; rintro e w6 ⟨rfl, Z4, hv6⟩; clear C4
           have C5 : Hid (Calls Try.prog 14 #[.pointer (some ⟨k.m, 0, none⟩)] w6 fun e w' => e = .returned (.tuple #[.int .i64 x, .int .i64 1]) ∧ Hv w k bR Z4 x 1 w') := hv_counts hv6
           clear hv6)
        | (go_at_call 14; refine C5.out.mono ?_; rintro e w7 ⟨rfl, hv7⟩; clear C5
           have C6 : Hid (Calls Try.prog 20 #[.pointer (some ⟨k.m, 0, none⟩), .int .i64 20, .int .u8 78] w7 fun e w' => e = .returned (.int .i64 0) ∧ Hv w k bR (upd Z4 20 (encZ 78)) x 1 w') := hv_write hv7 20 16 80 (bR_at 20 (by decide)) 78 (by decide)
           clear hv7)
        | (go_at_call 20; refine C6.out.mono ?_; rintro e w8 ⟨rfl, hv8⟩; clear C6
           have C7 : Hid (Calls Try.prog 16 #[.pointer (some ⟨k.m, 0, none⟩), .int .i64 20] w8 fun e w' => e = .returned (.tuple #[.int .u8 78, .int .i64 0]) ∧ Below w.heap.size w w') := by
             have := hv_read hv8 20 16 80 1 (bR_at 20 (by decide)) (Or.inl rfl) (by omega) (by decide)
             have ht := enc_told 78
             rw [upd_same, ht.1, ht.2.1] at this
             exact this.mono fun e w' ⟨h1, h2⟩ => ⟨h1, h2.bel⟩
           clear hv8)
        | (go_at_call 16; refine C7.out.mono ?_; rintro e w9 ⟨rfl, hb9⟩; clear C7; have HF := hidD hb9; clear hb9))
      go_ret
      exact ⟨rfl, HF.out⟩
end Go.Proofs.Ytjnfnihhihncmaa
