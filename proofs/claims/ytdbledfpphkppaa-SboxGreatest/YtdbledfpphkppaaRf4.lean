/- What the document's Lines answers. -/
import Derived.Test.YtdbledfpphkppaaRf3
namespace Go.Proofs.Ytdbledfpphkppaa
open Go.RowKit
set_option linter.unusedVariables false

theorem u8_andN {a b : Nat} (ha : a < 256) (hb : b < 256) : bits .and .u8 (a : Int) (b : Int) = ((a &&& b : Nat) : Int) := u8_and_nat a b (by omega) (by omega)
theorem and256 {a b : Nat} (hb : b < 256) : a &&& b < 256 := Nat.lt_of_le_of_lt Nat.and_le_right hb
theorem refLines_out (l : List UInt8) (hl : l.length ≠ 256) (a c : UInt8) (v : Value) (w : World) (hv : ByAt w v l) : Calls Try.prog 27 #[v, .int .u8 (a.toNat : Int), .int .u8 (c.toNat : Int)] w fun e w' => e = .returned (.tuple #[.int .i64 0, .int .i64 91]) ∧ w' = w := by
  obtain ⟨a', cap, rfl, _⟩ := hv.shape
  have h1 : ¬ (l.length : Int) = 256 := by omega
  have h2 : ((l.length : Int) == 256) = false := by simpa using h1
  generalize l.length = n at *
  clear hl hv
  go_enter Try.func27, Try.ntmps27
  go_wp2_with fail
  refine bodyPost_ret (v := .tuple #[.int .i64 0, .int .i64 91]) (by simp [results, Try.results27, go_sem]) rfl ?_
  exact ⟨rfl, rfl⟩
theorem tab_cellsB {w wr : World} {a : Option Addr} {n cap : Nat} {l : List UInt8} (h : ByAt w (.slice a n cap) l) (hl : l.length = 256) (hb : Below w.heap.size w wr) {x : Nat} (hx : x < 256) :
    ∃ g o, a = some ⟨g, o, none⟩ ∧ g < w.heap.size ∧ ∀ i : BW wr, i.v.cell? ⟨g, o + x, none⟩ = some (.int .u8 (tbN l x : Int)) := by
  obtain ⟨a', c', he, hc⟩ := h.shape
  cases he
  obtain ⟨g, o, rfl, hg, hc⟩ := hc x (by omega)
  exact ⟨g, o, rfl, hg, fun i => (i.below.cell (p := ⟨g, o + x, none⟩) (Nat.lt_of_lt_of_le hg hb.size)).trans ((hb.cell (p := ⟨g, o + x, none⟩) hg).trans hc)⟩
theorem same_par (m n : Nat) : ((m : Int) = (n : Int)) ↔ m = n := by omega

set_option maxRecDepth 100000 in
set_option maxHeartbeats 400000 in
theorem refLines_any (l : List UInt8) (hl : l.length = 256) (a c : UInt8) (v : Value) (w : World) (hv : ByAt w v l) : Calls Try.prog 27 #[v, .int .u8 (a.toNat : Int), .int .u8 (c.toNat : Int)] w fun e w' => e = .returned (.tuple #[.int .i64 ((linS (tbN l) a.toNat c.toNat : Int) - 128), .int .i64 0]) ∧ Below w.heap.size w w' := by
  obtain ⟨a', cap, rfl, _⟩ := hv.shape
  have HTC := hidD (fun wr (hb : Below w.heap.size w wr) x (hx : x < 256) => tab_cellsB hv hl hb hx)
  have HR : Hid (linS (tbN l) a.toNat c.toNat = ct (fun x => parS (x &&& a.toNat) == parS (tbN l x &&& c.toNat)) 256) := rfl
  have HL := hidD (fun x => tbN_lt l x)
  have HPA : Hid (∀ v : Nat, v < 256 → ∀ w, Calls Try.prog 53 #[.int .u8 (v : Int)] w fun e w' => e = .returned (.int .i64 (parS v : Nat)) ∧ Below w.heap.size w w') := fun v hv w => (refParity_any v hv w).mono fun e w' h => ⟨h.1, by rw [h.2]; exact Below.refl _ _⟩
  rw [hl] at *
  have ha : a.toNat < 256 := a.toNat_lt
  have hc : c.toNat < 256 := c.toNat_lt
  generalize linS (tbN l) a.toNat c.toNat = R at *
  generalize a.toNat = A at *
  generalize c.toNat = C at *
  clear hv hl
  generalize tbN l = t at *
  go_enter Try.func27, Try.ntmps27
  go_wp2_with fail
  go_loopw [8, 9] (fun n i wr => ∃ k : Nat, k ≤ 256 ∧ i = .int .i64 k ∧ n = .int .i64 ((ct (fun x => parS (x &&& A) == parS (t x &&& C)) k : Int) - 128) ∧ Below w.heap.size w wr) (fun _ i _ => 256 - (intOf i).toNat)
  case atStart => exact ⟨0, Nat.zero_le _, rfl, rfl, Below.refl _ _⟩
  case round =>
    obtain ⟨k, hk, rfl, rfl, hbel⟩ := hrel
    have HBL := hidD hbel
    by_cases hlt : k < 256
    · have hlti : (k : Int) < 256 := by omega
      obtain ⟨g, o, rfl, hg, hc1⟩ := HTC.out wr hbel k hlt
      have hz1 := u8_andN hlt ha
      have hz2 := u8_andN (HL.out k) hc
      have hy1 : k &&& A < 256 := and256 ha
      have hy2 : t k &&& C < 256 := and256 hc
      have hn := ct_le (fun x => parS (x &&& A) == parS (t x &&& C)) k
      have HS : Hid (ct (fun x => parS (x &&& A) == parS (t x &&& C)) (k + 1) = ct (fun x => parS (x &&& A) == parS (t x &&& C)) k + (parS (k &&& A) == parS (t k &&& C)).toNat) := rfl
      generalize ct (fun x => parS (x &&& A) == parS (t x &&& C)) k = N at *
      generalize k &&& A = x1 at *
      generalize t k &&& C = x2 at *
      generalize (t k : Int) = T at *
      clear hbel
      go_wp2_with fail
      refine wp_region_below (by kernel_rfl) (by kernel_rfl) ?_
      repeat (go_big_quiet_step ((go_at_call 53; exact Calls.below_of (HPA.out _ (by assumption) _))))
      refine wpQuiet_nil ?_
      intro i
      generalize parS x1 = p1 at *
      generalize parS x2 = p2 at *
      by_cases he : p1 = p2
      · have he' : (p1 : Int) = p2 := by omega
        have HE := hidD he
        clear he
        go_wp2_with fail
        go_roundw
        case rel => exact ⟨k + 1, by omega, by go_num, by rw [HS.out, HE.out]; simp; omega, Below.next HBL.out i.below⟩
        case measure => simp [intOf]; omega
      · have he' : ¬ (p1 : Int) = p2 := by omega
        have hb' : ((p1 : Int) == p2) = false := by simpa using he'
        have HE := hidD he
        clear he
        go_wp2_with fail
        go_roundw
        case rel => exact ⟨k + 1, by omega, by go_num, by rw [HS.out, show (p1 == p2) = false by simpa using HE.out]; simp, Below.next HBL.out i.below⟩
        case measure => simp [intOf]; omega
    · obtain rfl : k = 256 := by omega
      rw [← HR.out]
      clear hbel
      go_wp2_with fail
      refine bodyPost_ret (v := .tuple #[.int .i64 ((R : Int) - 128), .int .i64 0]) (by simp [results, Try.results27, go_sem]) rfl ?_
      exact ⟨rfl, HBL.out⟩
end Go.Proofs.Ytdbledfpphkppaa
