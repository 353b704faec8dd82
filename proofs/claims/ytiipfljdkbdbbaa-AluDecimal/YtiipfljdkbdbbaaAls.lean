/- Two decimal digits: of the program and of the document. -/
import Derived.Test.YtiipfljdkbdbbaaAle
import Derived.OwnWalk
namespace Go.Proofs.Ytiipfljdkbdbbaa
open Go.RowKit
set_option linter.unusedVariables false

/- are both halves digits; their number; the two digits of a number -/
def pkd (v : Nat) : Bool := decide (v % 16 ≤ 9) && decide (v / 16 ≤ 9)
def dN (v : Nat) : Nat := v / 16 * 10 + v % 16
def dO (n : Int) : Nat := pk (n % 100).toNat
theorem pkd_t {v : Nat} (h1 : v % 16 ≤ 9) (h2 : v / 16 ≤ 9) : pkd v = true := by unfold pkd; rw [decide_eq_true h1, decide_eq_true h2]; rfl
theorem pkd_f {v : Nat} (h : ¬ (v % 16 ≤ 9 ∧ v / 16 ≤ 9)) : pkd v = false := by
  unfold pkd
  by_cases h1 : v % 16 ≤ 9
  · rw [decide_eq_true h1, decide_eq_false (fun h2 => h ⟨h1, h2⟩)]; rfl
  · rw [decide_eq_false h1]; rfl
theorem pkd_of {v : Nat} (h : pkd v = true) : v % 16 ≤ 9 ∧ v / 16 ≤ 9 := by
  unfold pkd at h; simpa using h
theorem dN_lt {v : Nat} (h : pkd v = true) : dN v < 100 := by have := pkd_of h; unfold dN; omega
theorem dO_lt (n : Int) : dO n < 256 := pk_lt (by omega)
theorem and15u : ∀ v < 256, bits .and .u32 ((v : Nat) : Int) 15 = ((v % 16 : Nat) : Int) := by decide +kernel
theorem and15b : ∀ v < 256, bits .and .u8 ((v : Nat) : Int) 15 = ((v % 16 : Nat) : Int) := by decide +kernel
theorem pack_or : ∀ n < 100, bits .or .i64 (((n : Nat) : Int) / 10 * 16) ((n : Int) % 10) % 256 = ((pk n : Nat) : Int) := by decide +kernel

set_option maxRecDepth 100000 in
set_option maxHeartbeats 1600000 in
theorem isPacked_any (v : Nat) (hv : v < 256) : W1 59 #[.int .u32 (v : Int)] (.bool (pkd v)) := by
  intro w
  have h1 := and15u v hv
  have h2 : (v : Int) / 16 = ((v / 16 : Nat) : Int) := by omega
  unfold pkd
  generalize v % 16 = r at *
  generalize v / 16 = q at *
  by_cases hr : r ≤ 9
  · have hi : (r : Int) ≤ 9 := by omega
    rw [decide_eq_true hr]
    by_cases hq : q ≤ 9
    · have hj : (q : Int) ≤ 9 := by omega
      rw [decide_eq_true hq]
      go_enter Try.func59, Try.ntmps59
      go_wp2_with fail
      go_ret
      exact ⟨by first | rfl | (simp; done), rfl⟩
    · have hj : ¬ (q : Int) ≤ 9 := by omega
      rw [decide_eq_false hq]
      go_enter Try.func59, Try.ntmps59
      go_wp2_with fail
      go_ret
      exact ⟨by first | rfl | (simp; done), rfl⟩
  · have hi : ¬ (r : Int) ≤ 9 := by omega
    rw [decide_eq_false hr]
    go_enter Try.func59, Try.ntmps59
    go_wp2_with fail
    go_ret
    exact ⟨by first | rfl | (simp; done), rfl⟩

set_option maxRecDepth 100000 in
set_option maxHeartbeats 1600000 in
theorem unpacked_yes (v : Nat) (hv : v < 256) (h : pkd v = true) : W1 52 #[.int .u8 (v : Int)] (.tuple #[.int .i64 (dN v : Int), .int .i64 0]) := by
  intro w
  have H : Hid (W1 59 #[.int .u32 (v : Int)] (.bool true)) := by rw [← h]; exact isPacked_any v hv
  have h1 := and15b v hv
  have h2 : (v : Int) / 16 = ((v / 16 : Nat) : Int) := by omega
  have h3 : ((v / 16 : Nat) : Int) * 10 + ((v % 16 : Nat) : Int) = ((dN v : Nat) : Int) := by unfold dN; omega
  have h4 := pkd_of h
  generalize dN v = d at *
  generalize v % 16 = r at *
  generalize v / 16 = q at *
  go_enter Try.func52, Try.ntmps52
  go_wp2_with (go_at_call 59; refine (H.out _).mono ?_; rintro e w2 ⟨rfl, rfl⟩)
  go_ret2
  exact ⟨by first | rfl | (simp; done), rfl⟩

set_option maxRecDepth 100000 in
set_option maxHeartbeats 1600000 in
theorem unpacked_no (v : Nat) (hv : v < 256) (h : pkd v = false) : W1 52 #[.int .u8 (v : Int)] (.tuple #[.int .i64 0, .int .i64 1]) := by
  intro w
  have H : Hid (W1 59 #[.int .u32 (v : Int)] (.bool false)) := by rw [← h]; exact isPacked_any v hv
  go_enter Try.func52, Try.ntmps52
  go_wp2_with (go_at_call 59; refine (H.out _).mono ?_; rintro e w2 ⟨rfl, rfl⟩)
  go_ret2
  exact ⟨by first | rfl | (simp; done), rfl⟩

set_option maxRecDepth 100000 in
set_option maxHeartbeats 1600000 in
theorem packed_any (n : Nat) (hn : n < 100) : W1 60 #[.int .i64 (n : Int)] (.tuple #[.int .u8 (pk n : Int), .int .i64 0]) := by
  intro w
  have h1 := hidD (pack_or n hn)
  have h2 : ¬ (n : Int) < 0 := by omega
  have h3 : ¬ (99 : Int) < (n : Int) := by omega
  go_enter Try.func60, Try.ntmps60
  go_wp2_with fail
  go_ret2
  exact ⟨by rw [← h1.out]; first | rfl | (simp; done), rfl⟩

set_option maxRecDepth 100000 in
set_option maxHeartbeats 1600000 in
theorem digitsOf_any (n : Int) (h1 : -100 ≤ n) (h2 : n < 300) : W1 53 #[.int .i64 n] (.int .u8 (dO n : Int)) := by
  intro w
  have e1 : n % 100 = (((n % 100).toNat : Nat) : Int) := by omega
  have e2 : (n + 100) % 100 = (((n % 100).toNat : Nat) : Int) := by omega
  have hm : (n % 100).toNat < 100 := by omega
  have e0 : dO n = pk (n % 100).toNat := rfl
  rw [e0]
  clear e0
  generalize (n % 100).toNat = m at *
  have H := hidD (packed_any m hm)
  generalize pk m = r at *
  go_enter Try.func53, Try.ntmps53
  go_wp2_with (go_at_call 60; refine (H.out _).mono ?_; rintro e w2 ⟨rfl, rfl⟩)
  go_ret
  exact ⟨by first | rfl | (simp; done), rfl⟩

def uN (v : Nat) : Nat := if pkd v then dN v else 0
def uE (v : Nat) : Nat := if pkd v then 0 else 1
theorem unpacked_any (v : Nat) (hv : v < 256) : W1 52 #[.int .u8 (v : Int)] (.tuple #[.int .i64 (uN v : Int), .int .i64 (uE v : Int)]) := by
  unfold uN uE
  cases h : pkd v
  · exact unpacked_no v hv h
  · exact unpacked_yes v hv h

set_option maxRecDepth 100000 in
set_option maxHeartbeats 1600000 in
theorem decimal_yes (a b p : Nat) (ha : a < 256) (hb : b < 256) (hp : p < 256) (qa : pkd a = true) (qb : pkd b = true) : W1 20 #[.int .u8 (a : Int), .int .u8 (b : Int), .int .u8 (p : Int)] (.tuple #[.int .u8 (dO ((dN a : Int) + (dN b : Int) + (cyN p : Int)) : Int), .int .u8 (dO ((dN a : Int) - (dN b : Int) - 1 + (cyN p : Int)) : Int), .bool true]) := by
  intro w
  have ua : uN a = dN a := by unfold uN; rw [qa, if_pos rfl]
  have va : uE a = 0 := by unfold uE; rw [qa, if_pos rfl]
  have ub : uN b = dN b := by unfold uN; rw [qb, if_pos rfl]
  have vb : uE b = 0 := by unfold uE; rw [qb, if_pos rfl]
  have hx := dN_lt qa
  have hy := dN_lt qb
  have hc := cy_lt p
  go_enter Try.func20, Try.ntmps20
  go_wp2_with (first | (go_at_call 52; refine (unpacked_any _ (by assumption) _).mono ?_; rintro e w2 ⟨rfl, rfl⟩; try rw [ua, va]; try rw [ub, vb]) | (go_at_call 48; refine (carryN_any _ (by repeat' (first | assumption | decide | apply wi_lt | apply fl_lt)) _).mono ?_; rintro e w2 ⟨rfl, rfl⟩) | (go_at_call 53; refine (digitsOf_any _ (by omega) (by omega) _).mono ?_; rintro e w2 ⟨rfl, rfl⟩))
  go_ret3
  exact ⟨rfl, rfl⟩

set_option maxRecDepth 100000 in
set_option maxHeartbeats 1600000 in
theorem decimal_na (a b p : Nat) (ha : a < 256) (hb : b < 256) (hp : p < 256) (qa : pkd a = false) : W1 20 #[.int .u8 (a : Int), .int .u8 (b : Int), .int .u8 (p : Int)] (.tuple #[.int .u8 0, .int .u8 0, .bool false]) := by
  intro w
  have ua : uN a = 0 := by unfold uN; rw [qa, if_neg (by decide)]
  have va : uE a = 1 := by unfold uE; rw [qa, if_neg (by decide)]
  go_enter Try.func20, Try.ntmps20
  go_wp2_with (go_at_call 52; refine (unpacked_any _ (by assumption) _).mono ?_; rintro e w2 ⟨rfl, rfl⟩; try rw [ua, va])
  go_ret3
  exact ⟨rfl, rfl⟩

set_option maxRecDepth 100000 in
set_option maxHeartbeats 1600000 in
theorem decimal_nb (a b p : Nat) (ha : a < 256) (hb : b < 256) (hp : p < 256) (qa : pkd a = true) (qb : pkd b = false) : W1 20 #[.int .u8 (a : Int), .int .u8 (b : Int), .int .u8 (p : Int)] (.tuple #[.int .u8 0, .int .u8 0, .bool false]) := by
  intro w
  have ua : uN a = dN a := by unfold uN; rw [qa, if_pos rfl]
  have va : uE a = 0 := by unfold uE; rw [qa, if_pos rfl]
  have ub : uN b = 0 := by unfold uN; rw [qb, if_neg (by decide)]
  have vb : uE b = 1 := by unfold uE; rw [qb, if_neg (by decide)]
  go_enter Try.func20, Try.ntmps20
  go_wp2_with (go_at_call 52; refine (unpacked_any _ (by assumption) _).mono ?_; rintro e w2 ⟨rfl, rfl⟩; try rw [ua, va]; try rw [ub, vb])
  go_ret3
  exact ⟨rfl, rfl⟩

end Go.Proofs.Ytiipfljdkbdbbaa
