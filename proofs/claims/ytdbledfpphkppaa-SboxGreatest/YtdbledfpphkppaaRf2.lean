/- What the document's Unsub, Round, Differences, Parity and Lines answer. -/
import Derived.Test.YtdbledfpphkppaaRf1
import Derived.Test.YtdbledfpphkppaaSb2
namespace Go.Proofs.Ytdbledfpphkppaa
open Go.RowKit
set_option linter.unusedVariables false

/- a table's word -/
def tbN (l : List UInt8) (x : Nat) : Nat := (l.getD x 0).toNat
theorem tbN_lt (l : List UInt8) (x : Nat) : tbN l x < 256 := (l.getD x 0).toNat_lt
theorem i64_xorN {a b : Nat} (ha : a < 256) (hb : b < 256) : bits .xor .i64 (a : Int) (b : Int) = ((a ^^^ b : Nat) : Int) := i64_xor_nat a b (by omega) (by omega)

theorem refTab_out (l : List UInt8) (hl : l.length ≠ 256) (a c : UInt8) (v : Value) (w : World) (hv : ByAt w v l) : Calls Try.prog 25 #[v, .int .u8 (a.toNat : Int), .int .u8 (c.toNat : Int)] w fun e w' => e = .returned (.tuple #[.int .i64 0, .int .i64 91]) ∧ w' = w := by
  obtain ⟨a', cap, rfl, _⟩ := hv.shape
  have h1 : ¬ (l.length : Int) = 256 := by omega
  have h2 : ((l.length : Int) == 256) = false := by simpa using h1
  generalize l.length = n at *
  clear hl hv
  go_enter Try.func25, Try.ntmps25
  go_wp2_with fail
  refine bodyPost_ret (v := .tuple #[.int .i64 0, .int .i64 91]) (by simp [results, Try.results25, go_sem]) rfl ?_
  exact ⟨rfl, rfl⟩

theorem tab_cells {w wr : World} {a : Option Addr} {n cap : Nat} {l : List UInt8} (h : ByAt w (.slice a n cap) l) (hl : l.length = 256) (hb : Below w.heap.size w wr) {x : Nat} (hx : x < 256) :
    ∃ g o, a = some ⟨g, o, none⟩ ∧ g < w.heap.size ∧ ∀ n, (wr.drewN n).cell? ⟨g, o + x, none⟩ = some (.int .u8 (tbN l x : Int)) := by
  obtain ⟨a', c', he, hc⟩ := h.shape
  cases he
  obtain ⟨g, o, rfl, hg, hc⟩ := hc x (by omega)
  exact ⟨g, o, rfl, hg, fun n => (hb.cell (p := ⟨g, o + x, none⟩) hg).trans hc⟩

set_option maxRecDepth 100000 in
set_option maxHeartbeats 400000 in
theorem refDiff_any (l : List UInt8) (hl : l.length = 256) (a c : UInt8) (v : Value) (w : World) (hv : ByAt w v l) : Calls Try.prog 25 #[v, .int .u8 (a.toNat : Int), .int .u8 (c.toNat : Int)] w fun e w' => e = .returned (.tuple #[.int .i64 (diffS (tbN l) a.toNat c.toNat : Nat), .int .i64 0]) ∧ Below w.heap.size w w' := by
  obtain ⟨a', cap, rfl, _⟩ := hv.shape
  have HTC := hidD (fun wr (hb : Below w.heap.size w wr) x (hx : x < 256) => tab_cells hv hl hb hx)
  have HR : Hid (diffS (tbN l) a.toNat c.toNat = ct (fun x => tbN l x ^^^ tbN l (x ^^^ a.toNat) == c.toNat) 256) := rfl
  have HL := hidD (fun x => tbN_lt l x)
  rw [hl] at *
  have ha : a.toNat < 256 := a.toNat_lt
  generalize diffS (tbN l) a.toNat c.toNat = R at *
  generalize a.toNat = A at *
  generalize c.toNat = C at *
  clear hv hl
  generalize tbN l = t at *
  go_enter Try.func25, Try.ntmps25
  go_wp2_with fail
  go_loopw [8, 9] (fun n i wr => ∃ k : Nat, k ≤ 256 ∧ i = .int .i64 k ∧ n = .int .i64 ((ct (fun x => t x ^^^ t (x ^^^ A) == C) k : Nat) : Int) ∧ Below w.heap.size w wr) (fun _ i _ => 256 - (intOf i).toNat)
  case atStart => exact ⟨0, Nat.zero_le _, rfl, rfl, Below.refl _ _⟩
  case round =>
    obtain ⟨k, hk, rfl, rfl, hbel⟩ := hrel
    have HBL := hidD hbel
    by_cases hlt : k < 256
    · have hlti : (k : Int) < 256 := by omega
      have hy := xor256 hlt ha
      have hxy := i64_xorN hlt ha
      obtain ⟨g, o, rfl, hg, hc1⟩ := HTC.out wr hbel k hlt
      obtain ⟨g', o', hgo, hg2, hc2⟩ := HTC.out wr hbel (k ^^^ A) hy
      cases hgo
      have hz : bits .xor .u8 (t k : Int) (t (k ^^^ A) : Int) = ((t k ^^^ t (k ^^^ A) : Nat) : Int) := u8_xor_nat _ _ (HL.out _) (HL.out _)
      have hn := ct_le (fun x => t x ^^^ t (x ^^^ A) == C) k
      have HS : Hid (ct (fun x => t x ^^^ t (x ^^^ A) == C) (k + 1) = ct (fun x => t x ^^^ t (x ^^^ A) == C) k + (t k ^^^ t (k ^^^ A) == C).toNat) := rfl
      generalize ct (fun x => t x ^^^ t (x ^^^ A) == C) k = N at *
      generalize t k ^^^ t (k ^^^ A) = Z at *
      generalize (t k : Int) = X at *
      generalize (t (k ^^^ A) : Int) = Y at *
      generalize k ^^^ A = y at *
      clear hbel
      by_cases he : Z = C
      · have he' : (Z : Int) = C := by omega
        have HE := hidD he
        clear he
        go_wp2_with fail
        go_quiet (fail)
        go_wp2_with fail
        go_roundw
        case rel => exact ⟨k + 1, by omega, by go_num, by rw [HS.out, HE.out]; simp, below_drewN HBL.out _⟩
        case measure => simp [intOf]; omega
      · have he' : ¬ (Z : Int) = C := by omega
        have hb' : ((Z : Int) == C) = false := by simpa using he'
        have HE := hidD he
        clear he
        go_wp2_with fail
        go_quiet (fail)
        go_wp2_with fail
        go_roundw
        case rel => exact ⟨k + 1, by omega, by go_num, by rw [HS.out, show (Z == C) = false by simpa using HE.out]; simp, below_drewN HBL.out _⟩
        case measure => simp [intOf]; omega
    · obtain rfl : k = 256 := by omega
      rw [← HR.out]
      clear hbel
      go_wp2_with fail
      refine bodyPost_ret (v := .tuple #[.int .i64 (R : Int), .int .i64 0]) (by simp [results, Try.results25, go_sem]) rfl ?_
      exact ⟨rfl, HBL.out⟩
end Go.Proofs.Ytdbledfpphkppaa
