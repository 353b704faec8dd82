/- What the program's Parity, Ones, Lines and Linear answer. -/
import Derived.Test.YtdbledfpphkppaaPgd
import Derived.Deep.RegionWith
namespace Go.Proofs.Ytdbledfpphkppaa
open Go.RowKit
set_option linter.unusedVariables false

theorem bit_u32 {v : Nat} (k : Nat) (hv : v < 4294967296) : bits .and .u32 ((v : Int) / 2 ^ k) 1 = ((v.testBit k).toNat : Int) := by
  rw [show (v : Int) / 2 ^ k = ((v / 2 ^ k : Nat) : Int) by simp, show (1 : Int) = ((1 : Nat) : Int) from rfl, u32_and_nat _ _ (Nat.lt_of_le_of_lt (Nat.div_le_self _ _) hv) (by omega), Nat.and_one_is_mod, bit_nat]
set_option maxRecDepth 100000 in
set_option maxHeartbeats 400000 in
theorem pOnesOf_any (v : Nat) (hv : v < 256) (w : World) : Calls Try.prog 66 #[.int .u32 (v : Int), .int .i64 8] w fun e w' => e = .returned (.int .i64 ((onesTo v 8 : Nat) : Int)) ∧ w' = w := by
  go_enter Try.func66, Try.ntmps66
  go_wp2_with fail
  go_loopw [5, 8] (fun n i wr => ∃ k : Nat, k ≤ 8 ∧ i = .int .i64 k ∧ n = .int .i64 ((onesTo v k : Nat) : Int) ∧ wr = w) (fun _ i _ => 8 - (intOf i).toNat)
  case atStart => exact ⟨0, Nat.zero_le _, rfl, rfl, rfl⟩
  case round =>
    obtain ⟨k, hk, rfl, rfl, rfl⟩ := hrel
    by_cases hlt : k < 8
    · have hlti : (k : Int) < 8 := by omega
      have hbit := bit_u32 (v := v) k (by omega)
      have hn := ones_le v k
      have hbt := Bool.toNat_le (v.testBit k)
      have HS : Hid (onesTo v (k + 1) = onesTo v k + (v.testBit k).toNat) := rfl
      generalize (v.testBit k).toNat = B at *
      generalize hN : onesTo v k = N at *
      clear hN
      go_wp2_with fail
      go_roundw
      case rel => exact ⟨k + 1, by omega, by go_num, by rw [HS.out]; go_num, trivial⟩
      case measure => simp [intOf]; omega
    · obtain rfl : k = 8 := by omega
      go_wp2_with fail
      go_ret
      exact ⟨rfl, rfl⟩
theorem pOnes_any (v : Nat) (hv : v < 256) (w : World) : Calls Try.prog 55 #[.int .u8 (v : Int)] w fun e w' => e = .returned (.int .i64 ((onesTo v 8 : Nat) : Int)) ∧ w' = w := by
  have HO := hidD (fun w => pOnesOf_any v hv w)
  generalize ((onesTo v 8 : Nat) : Int) = R at *
  go_enter Try.func55, Try.ntmps55
  go_wp2_with (go_at_call 66; refine (HO.out _).mono ?_; rintro e w1 ⟨rfl, rfl⟩)
  go_ret
  exact ⟨rfl, rfl⟩
theorem pParity_any (v : Nat) (hv : v < 256) (w : World) : Calls Try.prog 52 #[.int .u8 (v : Int)] w fun e w' => e = .returned (.int .i64 (parS v : Nat)) ∧ w' = w := by
  have HO := hidD (fun w => pOnes_any v hv w)
  have hn := ones_le v 8
  have hm : bits .and .i64 ((onesTo v 8 : Nat) : Int) 1 = ((parS v : Nat) : Int) := by
    rw [show (1 : Int) = ((1 : Nat) : Int) from rfl, i64_and_nat _ _ (by omega) (by omega), Nat.and_one_is_mod]; rfl
  generalize ((parS v : Nat) : Int) = R at *
  generalize onesTo v 8 = N at *
  go_enter Try.func52, Try.ntmps52
  go_wp2_with (go_at_call 55; refine (HO.out _).mono ?_; rintro e w1 ⟨rfl, rfl⟩)
  go_ret
  exact ⟨rfl, rfl⟩
set_option maxRecDepth 100000 in
theorem pLines_out (l : List UInt8) (hl : l.length ≠ 256) (a c : UInt8) (v : Value) (w : World) (hv : ByAt w v l) : Calls Try.prog 26 #[v, .int .u8 (a.toNat : Int), .int .u8 (c.toNat : Int)] w fun e w' => e = .returned (.tuple #[.int .i64 0, .int .i64 91]) ∧ Below w.heap.size w w' := by
  obtain ⟨a', cap, rfl, _⟩ := hv.shape
  have HI := hidD (fun w => right_any l.length cap a' w)
  rw [show decide (l.length = 256) = false by simpa using hl] at HI
  generalize l.length = n at *
  clear hl hv
  go_enter Try.func26, Try.ntmps26
  go_wp2_with (go_at_call 50; refine (HI.out _).mono ?_; rintro e w1 ⟨rfl, rfl⟩)
  refine bodyPost_ret (v := .tuple #[.int .i64 0, .int .i64 91]) (by simp [results, Try.results26, go_sem]) rfl ?_
  exact ⟨rfl, Below.refl _ _⟩
set_option maxRecDepth 100000 in
set_option maxHeartbeats 800000 in
theorem pLines_any (l : List UInt8) (hl : l.length = 256) (a c : UInt8) (v : Value) (w : World) (hv : ByAt w v l) : Calls Try.prog 26 #[v, .int .u8 (a.toNat : Int), .int .u8 (c.toNat : Int)] w fun e w' => e = .returned (.tuple #[.int .i64 ((linS (tbN l) a.toNat c.toNat : Int) - 128), .int .i64 0]) ∧ Below w.heap.size w w' := by
  obtain ⟨a', cap, rfl, _⟩ := hv.shape
  have HI := hidD (fun w => right_any 256 cap a' w)
  rw [show decide (256 = 256) = true by decide] at HI
  have HTC := hidD (fun wr (hb : Below w.heap.size w wr) x (hx : x < 256) => tab_cell0 hv hl hb hx)
  have HR : Hid (linS (tbN l) a.toNat c.toNat = ct (fun x => parS (x &&& a.toNat) == parS (tbN l x &&& c.toNat)) 256) := rfl
  have HL := hidD (fun x => tbN_lt l x)
  have HPA : Hid (∀ v : Nat, v < 256 → ∀ w, Calls Try.prog 52 #[.int .u8 (v : Int)] w fun e w' => e = .returned (.int .i64 (parS v : Nat)) ∧ w' = w) := fun v hv w => pParity_any v hv w
  rw [hl] at *
  have ha : a.toNat < 256 := a.toNat_lt
  have hc : c.toNat < 256 := c.toNat_lt
  generalize linS (tbN l) a.toNat c.toNat = R at *
  generalize a.toNat = A at *
  generalize c.toNat = C at *
  clear hv hl
  generalize tbN l = t at *
  go_enter Try.func26, Try.ntmps26
  go_wp2_with (go_at_call 50; refine (HI.out _).mono ?_; rintro e w1 ⟨rfl, hw1⟩)
  subst hw1
  go_loopw [8, 16] (fun n i wr => ∃ k : Nat, k ≤ 256 ∧ i = .int .i64 k ∧ n = .int .i64 ((ct (fun x => parS (x &&& A) == parS (t x &&& C)) k : Int) - 128) ∧ wr = w1) (fun _ i _ => 256 - (intOf i).toNat)
  case atStart => exact ⟨0, Nat.zero_le _, rfl, rfl, rfl⟩
  case round =>
    obtain ⟨k, hk, rfl, rfl, rfl⟩ := hrel
    by_cases hlt : k < 256
    · have hlti : (k : Int) < 256 := by omega
      have hmod : (k : Int) % 256 = k := by omega
      obtain ⟨g, o, rfl, hg, hc1⟩ := HTC.out wr (Below.refl _ _) k hlt
      have hz1 := u8_andN hlt ha
      have hz2 := u8_andN (HL.out k) hc
      have H1 := hidD (HPA.out (k &&& A) (and256 ha))
      have H2 := hidD (HPA.out (t k &&& C) (and256 hc))
      have hn := ct_le (fun x => parS (x &&& A) == parS (t x &&& C)) k
      have HS : Hid (ct (fun x => parS (x &&& A) == parS (t x &&& C)) (k + 1) = ct (fun x => parS (x &&& A) == parS (t x &&& C)) k + (parS (k &&& A) == parS (t k &&& C)).toNat) := rfl
      generalize ct (fun x => parS (x &&& A) == parS (t x &&& C)) k = N at *
      generalize parS (k &&& A) = p1 at *
      generalize parS (t k &&& C) = p2 at *
      generalize ((k &&& A : Nat) : Int) = x1 at *
      generalize ((t k &&& C : Nat) : Int) = x2 at *
      generalize (t k : Int) = T at *
      by_cases he : p1 = p2
      · have he' : (p1 : Int) = p2 := by omega
        have HE := hidD he
        clear he
        go_wp2_with (first | (go_at_call 52; refine (H1.out _).mono ?_; rintro e w2 ⟨rfl, hw2⟩; clear H1) | (go_at_call 52; refine (H2.out _).mono ?_; rintro e w3 ⟨rfl, hw3⟩; clear H2))
        subst hw2 hw3
        go_roundw
        case rel => exact ⟨k + 1, by omega, by go_num, by rw [HS.out, HE.out]; simp; omega, by first | trivial | rfl⟩
        case measure => simp [intOf]; omega
      · have he' : ¬ (p1 : Int) = p2 := by omega
        have hb' : ((p1 : Int) == p2) = false := by simpa using he'
        have HE := hidD he
        clear he
        go_wp2_with (first | (go_at_call 52; refine (H1.out _).mono ?_; rintro e w2 ⟨rfl, hw2⟩; clear H1) | (go_at_call 52; refine (H2.out _).mono ?_; rintro e w3 ⟨rfl, hw3⟩; clear H2))
        subst hw2 hw3
        go_roundw
        case rel => exact ⟨k + 1, by omega, by go_num, by rw [HS.out, show (p1 == p2) = false by simpa using HE.out]; simp, by first | trivial | rfl⟩
        case measure => simp [intOf]; omega
    · obtain rfl : k = 256 := by omega
      rw [← HR.out]
      go_wp2_with fail
      refine bodyPost_ret (v := .tuple #[.int .i64 ((R : Int) - 128), .int .i64 0]) (by simp [results, Try.results26, go_sem]) rfl ?_
      exact ⟨rfl, Below.refl _ _⟩
end Go.Proofs.Ytdbledfpphkppaa
