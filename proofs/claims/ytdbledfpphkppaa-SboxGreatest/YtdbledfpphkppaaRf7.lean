/- What the document's Degree answers. -/
import Derived.Test.YtdbledfpphkppaaRf6
namespace Go.Proofs.Ytdbledfpphkppaa
open Go.RowKit
set_option linter.unusedVariables false

theorem refDeg_out (l : List UInt8) (hl : l.length ≠ 256) (b : Int) (v : Value) (w : World) (hv : ByAt w v l) : Calls Try.prog 29 #[v, .int .i64 b] w fun e w' => e = .returned (.tuple #[.int .i64 0, .int .i64 91]) ∧ w' = w := by
  obtain ⟨a', cap, rfl, _⟩ := hv.shape
  have h1 : ¬ (l.length : Int) = 256 := by omega
  have h2 : ((l.length : Int) == 256) = false := by simpa using h1
  generalize l.length = n at *
  clear hl hv
  go_enter Try.func29, Try.ntmps29
  go_wp2_with fail
  refine bodyPost_ret (v := .tuple #[.int .i64 0, .int .i64 91]) (by simp [results, Try.results29, go_sem]) rfl ?_
  exact ⟨rfl, rfl⟩
theorem refDeg_arg (l : List UInt8) (hl : l.length = 256) (b : Int) (hb : b < 0 ∨ 7 < b) (v : Value) (w : World) (hv : ByAt w v l) : Calls Try.prog 29 #[v, .int .i64 b] w fun e w' => e = .returned (.tuple #[.int .i64 0, .int .i64 1]) ∧ w' = w := by
  obtain ⟨a', cap, rfl, _⟩ := hv.shape
  rw [hl] at *
  clear hl hv
  by_cases h0 : b < 0
  · clear hb
    go_enter Try.func29, Try.ntmps29
    go_wp2_with fail
    refine bodyPost_ret (v := .tuple #[.int .i64 0, .int .i64 1]) (by simp [results, Try.results29, go_sem]) rfl ?_
    exact ⟨rfl, rfl⟩
  · have h7 : 7 < b := by omega
    clear hb
    go_enter Try.func29, Try.ntmps29
    go_wp2_with fail
    refine bodyPost_ret (v := .tuple #[.int .i64 0, .int .i64 1]) (by simp [results, Try.results29, go_sem]) rfl ?_
    exact ⟨rfl, rfl⟩
theorem tab_cell0 {w wr : World} {a : Option Addr} {n cap : Nat} {l : List UInt8} (h : ByAt w (.slice a n cap) l) (hl : l.length = 256) (hb : Below w.heap.size w wr) {x : Nat} (hx : x < 256) :
    ∃ g o, a = some ⟨g, o, none⟩ ∧ g < w.heap.size ∧ wr.cell? ⟨g, o + x, none⟩ = some (.int .u8 (tbN l x : Int)) := by
  obtain ⟨g, o, h1, h2, h3⟩ := tab_cells h hl hb hx
  exact ⟨g, o, h1, h2, h3 0⟩
/- the coefficient so far -/
def anTo (t : Nat → Nat) (bit m k : Nat) : Nat := ct (fun x => (x &&& m == x) && (t x).testBit bit) k % 2
theorem an_lt (t : Nat → Nat) (bit m k : Nat) : anTo t bit m k < 2 := Nat.mod_lt _ (by omega)
theorem an_skip {t : Nat → Nat} {bit m k : Nat} (h : k &&& m ≠ k) : anTo t bit m (k + 1) = anTo t bit m k := by
  unfold anTo; rw [ct_succ, show (k &&& m == k) = false by simpa using h]; simp
theorem an_take {t : Nat → Nat} {bit m k : Nat} (h : k &&& m = k) : anTo t bit m (k + 1) = anTo t bit m k ^^^ ((t k).testBit bit).toNat := by
  have : ct (fun x => (x &&& m == x) && (t x).testBit bit) (k + 1) = ct (fun x => (x &&& m == x) && (t x).testBit bit) k + ((t k).testBit bit).toNat := by
    rw [ct_succ, show (k &&& m == k) = true by simpa using h]; simp
  unfold anTo; rw [this]
  generalize ct (fun x => (x &&& m == x) && (t x).testBit bit) k = n
  have hx : ∀ a b : Nat, a < 2 → b < 2 → (a + b) % 2 = a ^^^ b := fun a b ha hb => by
    rcases (show a = 0 ∨ a = 1 by omega) with rfl | rfl <;> rcases (show b = 0 ∨ b = 1 by omega) with rfl | rfl <;> rfl
  rw [← hx _ _ (Nat.mod_lt _ (by omega)) (by have := Bool.toNat_le ((t k).testBit bit); omega)]; omega
def bestD (t : Nat → Nat) (bit j : Nat) : Nat := mx (fun m => if anfS t bit m = 1 then onesTo m 8 else 0) j
theorem bestD_le (t : Nat → Nat) (bit j : Nat) : bestD t bit j ≤ 8 := mx_le fun m _ => by have := ones_le m 8; split <;> omega
theorem anf_to (t : Nat → Nat) (bit m : Nat) : anTo t bit m 256 = anfS t bit m := rfl
theorem bestD_succ (t : Nat → Nat) (bit j : Nat) : bestD t bit (j + 1) = max (bestD t bit j) (if anfS t bit j = 1 then onesTo j 8 else 0) := rfl

set_option maxRecDepth 100000 in
set_option maxHeartbeats 1600000 in
theorem refDeg_any (l : List UInt8) (hl : l.length = 256) (b : Nat) (hb : b < 8) (v : Value) (w : World) (hv : ByAt w v l) : Calls Try.prog 29 #[v, .int .i64 (b : Int)] w fun e w' => e = .returned (.tuple #[.int .i64 (degS (tbN l) b : Nat), .int .i64 0]) ∧ w' = w := by
  obtain ⟨a', cap, rfl, _⟩ := hv.shape
  have HTC := hidD (fun x (hx : x < 256) => tab_cell0 hv hl (Below.refl w.heap.size w) hx)
  have HR : Hid (degS (tbN l) b = bestD (tbN l) b 256) := rfl
  have HL := hidD (fun x => tbN_lt l x)
  rw [hl] at *
  have hb7 : (b : Int) ≤ 7 := by omega
  generalize degS (tbN l) b = R at *
  clear hv hl
  generalize tbN l = t at *
  go_enter Try.func29, Try.ntmps29
  go_wp2_with fail
  go_loopw [6, 7] (fun n i wr => ∃ k : Nat, k ≤ 256 ∧ i = .int .i64 k ∧ n = .int .i64 ((bestD t b k : Nat) : Int) ∧ wr = w) (fun _ i _ => 256 - (intOf i).toNat)
  case atStart => exact ⟨0, Nat.zero_le _, rfl, rfl, rfl⟩
  case round =>
    obtain ⟨m, hm, rfl, rfl, rfl⟩ := hrel
    by_cases hlt : m < 256
    · have hlti : (m : Int) < 256 := by omega
      have HLE := hidD (bestD_le t b m)
      have HSU := hidD (bestD_succ t b m)
      generalize hbd : bestD t b m = M at *
      clear hbd
      go_wp2_with fail
      go_loopw [8, 9] (fun s i wr' => ∃ k : Nat, k ≤ 256 ∧ i = .int .i64 k ∧ s = .int .i64 ((anTo t b m k : Nat) : Int) ∧ wr' = wr) (fun _ i _ => 256 - (intOf i).toNat)
      case atStart => exact ⟨0, Nat.zero_le _, rfl, rfl, rfl⟩
      case round =>
        obtain ⟨k, hk, rfl, rfl, rfl⟩ := hrel
        by_cases hlk : k < 256
        · have hlki : (k : Int) < 256 := by omega
          have hand : bits .and .i64 (k : Int) (m : Int) = ((k &&& m : Nat) : Int) := i64_and_nat k m (by omega) (by omega)
          by_cases he : k &&& m = k
          · obtain ⟨g', o, rfl, hg, hc1⟩ := HTC.out k hlk
            have HST := hidD (an_take (t := t) (bit := b) he)
            rw [he] at hand
            have hbit := bit_u8 b (HL.out k)
            have hal := an_lt t b m k
            have hbt := Bool.toNat_le ((t k).testBit b)
            have hxr : bits .xor .i64 ((anTo t b m k : Nat) : Int) (((t k).testBit b).toNat : Int) = ((anTo t b m k ^^^ ((t k).testBit b).toNat : Nat) : Int) := i64_xor_nat _ _ (by omega) (by omega)
            clear he
            generalize ((t k).testBit b).toNat = B at *
            generalize hx : (t k : Int) = X at *
            clear hx
            generalize anTo t b m k ^^^ B = Y at *
            generalize ((anTo t b m k : Nat) : Int) = S at *
            go_wp2_with fail
            go_roundw
            case rel => exact ⟨k + 1, by omega, by go_num, by rw [HST.out], trivial⟩
            case measure => simp [intOf]; omega
          · have hne : ¬ ((k &&& m : Nat) : Int) = (k : Int) := by omega
            have hnb : (((k &&& m : Nat) : Int) == (k : Int)) = false := by simpa using hne
            have HST := hidD (an_skip (t := t) (bit := b) he)
            clear he
            generalize ((k &&& m : Nat) : Int) = X at *
            go_wp2_with fail
            go_roundw
            case rel => exact ⟨k + 1, by omega, by go_num, by rw [HST.out], trivial⟩
            case measure => simp [intOf]; omega
        · obtain rfl : k = 256 := by omega
          rw [anf_to]
          have hal := an_lt t b m 256
          rw [anf_to] at hal
          generalize anfS t b m = N at *
          go_wp2_with fail
          go_loopw [10, 11] (fun s i wr' => ∃ k : Nat, k ≤ 8 ∧ i = .int .i64 k ∧ s = .int .i64 ((onesTo m k : Nat) : Int) ∧ wr' = wr) (fun _ i _ => 8 - (intOf i).toNat)
          case atStart => exact ⟨0, Nat.zero_le _, rfl, rfl, rfl⟩
          case round =>
            obtain ⟨k, hk, rfl, rfl, rfl⟩ := hrel
            by_cases hlk : k < 8
            · have hlki : (k : Int) < 8 := by omega
              have hbit := bit_i64 k (show m < 9223372036854775808 by omega)
              have hn := ones_le m k
              have hbt := Bool.toNat_le (m.testBit k)
              have HS : Hid (onesTo m (k + 1) = onesTo m k + (m.testBit k).toNat) := rfl
              generalize (m.testBit k).toNat = B at *
              generalize hN : onesTo m k = N' at *
              clear hN
              go_wp2_with fail
              go_roundw
              case rel => exact ⟨k + 1, by omega, by go_num, by rw [HS.out]; go_num, trivial⟩
              case measure => simp [intOf]; omega
            · obtain rfl : k = 8 := by omega
              have hn := ones_le m 8
              generalize onesTo m 8 = O at *
              have hM := HLE.out
              by_cases he : N = 1
              · subst he
                have HX : Hid (bestD t b (m + 1) = max M O) := HSU.out
                go_wp2_with fail
                go_roundw
                case rel => exact ⟨m + 1, by omega, by go_num, by rw [HX.out]; congr 1; omega, trivial⟩
                case measure => simp [intOf]; omega
              · have h0 : N = 0 := by omega
                subst h0
                have HX : Hid (bestD t b (m + 1) = M) := by show _ = _; rw [HSU.out]; simp
                go_wp2_with fail
                go_roundw
                case rel => exact ⟨m + 1, by omega, by go_num, by rw [HX.out], trivial⟩
                case measure => simp [intOf]; omega
    · obtain rfl : m = 256 := by omega
      rw [← HR.out]
      go_wp2_with fail
      refine bodyPost_ret (v := .tuple #[.int .i64 (R : Int), .int .i64 0]) (by simp [results, Try.results29, go_sem]) rfl ?_
      exact ⟨rfl, rfl⟩
end Go.Proofs.Ytdbledfpphkppaa
