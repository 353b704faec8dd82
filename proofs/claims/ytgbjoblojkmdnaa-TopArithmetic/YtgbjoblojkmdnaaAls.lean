/- Two decimal digits: of the program and of the document. -/
import Derived.Test.YtgbjoblojkmdnaaAle
import Derived.OwnWalk
namespace Go.Proofs.Ytgbjoblojkmdnaa
open Go.RowKit
set_option linter.unusedVariables false

/- are both halves digits; their number; the two digits of a number -/
def pkd (v : Nat) : Bool := decide (v % 16 ≤ 9) && decide (v / 16 ≤ 9)
def dN (v : Nat) : Nat := v / 16 * 10 + v % 16
def dO (n : Int) : Nat := pk (n % 100).toNat
theorem pkd_t {v : Nat} (h1 : v % 16 ≤ 9) (h2 : v / 16 ≤ 9) : pkd v = true := by unfold pkd; rw [decide_eq_true h1, decide_eq_true h2]; rfl
theorem pkd_f {v : Nat} (h : ¬ (v % 16 ≤ 9 ∧ v / 16 ≤ 9)) : pkd v = false := by
  unfold pkd
  by_cases h1 : v % 16 ≤ 9
  · rw [decide_eq_true h1, decide_eq_false (fun h2 => h ⟨h1, h2⟩)]; rfl
  · rw [decide_eq_false h1]; rfl
theorem pkd_of {v : Nat} (h : pkd v = true) : v % 16 ≤ 9 ∧ v / 16 ≤ 9 := by
  unfold pkd at h; simpa using h
theorem dN_lt {v : Nat} (h : pkd v = true) : dN v < 100 := by have := pkd_of h; unfold dN; omega
theorem dO_lt (n : Int) : dO n < 256 := pk_lt (by omega)
theorem and15u : ∀ v < 256, bits .and .u32 ((v : Nat) : Int) 15 = ((v % 16 : Nat) : Int) := by decide +kernel
theorem and15b : ∀ v < 256, bits .and .u8 ((v : Nat) : Int) 15 = ((v % 16 : Nat) : Int) := by decide +kernel
theorem pack_or : ∀ n < 100, bits .or .i64 (((n : Nat) : Int) / 10 * 16) ((n : Int) % 10) % 256 = ((pk n : Nat) : Int) := by decide +kernel

set_option maxRecDepth 100000 in
set_option maxHeartbeats 1600000 in
theorem isPacked_any (v : Nat) (hv : v < 256) : W1 18 #[.int .u32 (v : Int)] (.bool (pkd v)) := by
  intro w
  have h1 := and15u v hv
  have h2 : (v : Int) / 16 = ((v / 16 : Nat) : Int) := by omega
  unfold pkd
  generalize v % 16 = r at *
  generalize v / 16 = q at *
  by_cases hr : r ≤ 9
  · have hi : (r : Int) ≤ 9 := by omega
    rw [decide_eq_true hr]
    by_cases hq : q ≤ 9
    · have hj : (q : Int) ≤ 9 := by omega
      rw [decide_eq_true hq]
      go_enter Try.func18, Try.ntmps18
      go_wp2_with fail
      go_ret
      exact ⟨by first | rfl | (simp; done), rfl⟩
    · have hj : ¬ (q : Int) ≤ 9 := by omega
      rw [decide_eq_false hq]
      go_enter Try.func18, Try.ntmps18
      go_wp2_with fail
      go_ret
      exact ⟨by first | rfl | (simp; done), rfl⟩
  · have hi : ¬ (r : Int) ≤ 9 := by omega
    rw [decide_eq_false hr]
    go_enter Try.func18, Try.ntmps18
    go_wp2_with fail
    go_ret
    exact ⟨by first | rfl | (simp; done), rfl⟩

set_option maxRecDepth 100000 in
set_option maxHeartbeats 1600000 in
theorem unpacked_yes (v : Nat) (hv : v < 256) (h : pkd v = true) : W1 9 #[.int .u8 (v : Int)] (.tuple #[.int .i64 (dN v : Int), .int .i64 0]) := by
  intro w
  have H : Hid (W1 18 #[.int .u32 (v : Int)] (.bool true)) := by rw [← h]; exact isPacked_any v hv
  have h1 := and15b v hv
  have h2 : (v : Int) / 16 = ((v / 16 : Nat) : Int) := by omega
  have h3 : ((v / 16 : Nat) : Int) * 10 + ((v % 16 : Nat) : Int) = ((dN v : Nat) : Int) := by unfold dN; omega
  have h4 := pkd_of h
  generalize dN v = d at *
  generalize v % 16 = r at *
  generalize v / 16 = q at *
  go_enter Try.func9, Try.ntmps9
  go_wp2_with (go_at_call 18; refine (H.out _).mono ?_; rintro e w2 ⟨rfl, rfl⟩)
  go_ret2
  exact ⟨by first | rfl | (simp; done), rfl⟩

set_option maxRecDepth 100000 in
set_option maxHeartbeats 1600000 in
theorem unpacked_no (v : Nat) (hv : v < 256) (h : pkd v = false) : W1 9 #[.int .u8 (v : Int)] (.tuple #[.int .i64 0, .int .i64 1]) := by
  intro w
  have H : Hid (W1 18 #[.int .u32 (v : Int)] (.bool false)) := by rw [← h]; exact isPacked_any v hv
  go_enter Try.func9, Try.ntmps9
  go_wp2_with (go_at_call 18; refine (H.out _).mono ?_; rintro e w2 ⟨rfl, rfl⟩)
  go_ret2
  exact ⟨by first | rfl | (simp; done), rfl⟩

set_option maxRecDepth 100000 in
set_option maxHeartbeats 1600000 in
theorem packed_any (n : Nat) (hn : n < 100) : W1 8 #[.int .i64 (n : Int)] (.tuple #[.int .u8 (pk n : Int), .int .i64 0]) := by
  intro w
  have h1 := hidD (pack_or n hn)
  have h2 : ¬ (n : Int) < 0 := by omega
  have h3 : ¬ (99 : Int) < (n : Int) := by omega
  go_enter Try.func8, Try.ntmps8
  go_wp2_with fail
  go_ret2
  exact ⟨by rw [← h1.out]; first | rfl | (simp; done), rfl⟩

end Go.Proofs.Ytgbjoblojkmdnaa
