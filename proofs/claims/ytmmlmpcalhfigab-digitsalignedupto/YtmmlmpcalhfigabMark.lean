/- What mark of the document and kindOf of the program answer. -/
import Derived.Test.YtmmlmpcalhfigabDig
namespace Go.Proofs.Ytmmlmpcalhfigab
open Go.RowKit
set_option linter.unusedVariables false

theorem hidD {q : Prop} (h : q) : Hid q := h
theorem ret_two {a b c d : Int} (h1 : a = c) (h2 : b = d) : Ending.returned (.tuple #[.int .i64 a, .int .i64 b]) = .returned (.tuple #[.int .i64 c, .int .i64 d]) := by rw [h1, h2]
theorem ba_size (l : List UInt8) : ({ data := l.toArray } : ByteArray).size = l.length := by simp [ByteArray.size]
theorem ba_get (l : List UInt8) (k : Nat) (h : k < ({ data := l.toArray } : ByteArray).size) : ({ data := l.toArray } : ByteArray)[k] = l.getD k 0 := by
  have h' : k < l.length := by rw [ba_size] at h; exact h
  show l.toArray[k] = _
  simp [List.getD, List.getElem?_eq_getElem h']
theorem ba_nat (l : List UInt8) (k : Nat) (h : k < ({ data := l.toArray } : ByteArray).size) : (({ data := l.toArray } : ByteArray)[k]).toNat = byteAt l k := by rw [ba_get]; rfl
theorem byteAt_le (s : List UInt8) (k : Nat) : byteAt s k ≤ 255 := by unfold byteAt; have := (s.getD k 0).toNat_lt; omega

set_option maxRecDepth 100000 in
set_option maxHeartbeats 1000000 in
theorem kindOf_any (s : List UInt8) (hs : s.length ≤ maxLen) (w : World) : Calls Try.prog 15 #[.string ⟨s.toArray⟩] w fun e w' => e = .returned (.tuple #[.int .i64 (markS s).1, .int .i64 (markS s).2]) ∧ w' = w := by
  unfold maxLen at hs
  have HO : Hid (∀ w : World, Calls Try.prog 16 #[.int .u8 (byteAt s 2), .int .i64 16] w fun e w' => e = .returned (.bool (ofB (byteAt s 2) 16)) ∧ w' = w) := fun w => isDigit_any (byteAt s 2) (byteAt_le s 2) 16 w
  by_cases h0 : 0 < s.length
  · have h0' : 0 < ({ data := s.toArray } : ByteArray).size := by rw [ba_size]; exact h0
    have hi0 : (0 : Int) < s.length := by omega
    have e0 := ba_nat s 0 h0'
    have hne : (s == []) = false := by cases s with | nil => simp at h0 | cons a l => rfl
    by_cases k1 : (byteAt s 0 : Int) = 36
    · have e : markS s = (16, 1) := by unfold markS; rw [if_pos ⟨h0, by omega⟩]
      rw [e]
      clear e
      go_enter Try.func15, Try.ntmps15
      go_wp2
      go_ret2
      exact ⟨rfl, rfl⟩
    by_cases k2 : (byteAt s 0 : Int) = 37
    · have e : markS s = (2, 1) := by unfold markS; rw [if_neg (by omega), if_pos ⟨h0, by omega⟩]
      rw [e]
      clear e
      go_enter Try.func15, Try.ntmps15
      go_wp2
      go_ret2
      exact ⟨rfl, rfl⟩
    by_cases k3 : (byteAt s 0 : Int) = 64
    · have e : markS s = (8, 1) := by unfold markS; rw [if_neg (by omega), if_neg (by omega), if_pos ⟨h0, by omega⟩]
      rw [e]
      clear e
      go_enter Try.func15, Try.ntmps15
      go_wp2
      go_ret2
      exact ⟨rfl, rfl⟩
    have HM : Hid (markS s = if 2 < s.length ∧ byteAt s 0 = 48 ∧ (byteAt s 1 = 120 ∨ byteAt s 1 = 88) ∧ ofB (byteAt s 2) 16 = true then (16, 2) else (10, 0)) := by
      show markS s = _
      conv => lhs; unfold markS
      rw [if_neg (by omega), if_neg (by omega), if_neg (by omega)]
    by_cases k4 : 2 < s.length
    · have h1' : 1 < ({ data := s.toArray } : ByteArray).size := by rw [ba_size]; omega
      have h2' : 2 < ({ data := s.toArray } : ByteArray).size := by rw [ba_size]; omega
      have hi2 : (2 : Int) < s.length := by omega
      have e1 := ba_nat s 1 h1'
      have e2 := ba_nat s 2 h2'
      by_cases k5 : (byteAt s 0 : Int) = 48
      · by_cases k6 : (byteAt s 1 : Int) = 120
        · cases k7 : ofB (byteAt s 2) 16 with
          | true =>
            have e : markS s = (16, 2) := by rw [HM.out, if_pos ⟨k4, by omega, .inl (by omega), k7⟩]
            rw [e]
            rw [k7] at HO
            clear e
            go_enter Try.func15, Try.ntmps15
            go_wp2_with (go_at_call 16; refine (HO.out _).mono ?_; rintro e w' ⟨rfl, rfl⟩)
            go_ret2
            exact ⟨rfl, rfl⟩
          | false =>
            have e : markS s = (10, 0) := by rw [HM.out, if_neg (by rw [k7]; simp)]
            rw [e]
            rw [k7] at HO
            clear e
            go_enter Try.func15, Try.ntmps15
            go_wp2_with (go_at_call 16; refine (HO.out _).mono ?_; rintro e w' ⟨rfl, rfl⟩)
            go_ret2
            exact ⟨rfl, rfl⟩
        · by_cases k8 : (byteAt s 1 : Int) = 88
          · cases k7 : ofB (byteAt s 2) 16 with
            | true =>
              have e : markS s = (16, 2) := by rw [HM.out, if_pos ⟨k4, by omega, .inr (by omega), k7⟩]
              rw [e]
              rw [k7] at HO
              clear e
              go_enter Try.func15, Try.ntmps15
              go_wp2_with (go_at_call 16; refine (HO.out _).mono ?_; rintro e w' ⟨rfl, rfl⟩)
              go_ret2
              exact ⟨rfl, rfl⟩
            | false =>
              have e : markS s = (10, 0) := by rw [HM.out, if_neg (by rw [k7]; simp)]
              rw [e]
              rw [k7] at HO
              clear e
              go_enter Try.func15, Try.ntmps15
              go_wp2_with (go_at_call 16; refine (HO.out _).mono ?_; rintro e w' ⟨rfl, rfl⟩)
              go_ret2
              exact ⟨rfl, rfl⟩
          · have e : markS s = (10, 0) := by rw [HM.out, if_neg (by omega)]
            rw [e]
            clear e
            go_enter Try.func15, Try.ntmps15
            go_wp2
            go_ret2
            exact ⟨rfl, rfl⟩
      · have e : markS s = (10, 0) := by rw [HM.out, if_neg (by omega)]
        rw [e]
        clear e
        go_enter Try.func15, Try.ntmps15
        go_wp2
        go_ret2
        exact ⟨rfl, rfl⟩
    · have hi2 : ¬ (2 : Int) < s.length := by omega
      have e : markS s = (10, 0) := by rw [HM.out, if_neg (by omega)]
      rw [e]
      clear e
      go_enter Try.func15, Try.ntmps15
      go_wp2
      go_ret2
      exact ⟨rfl, rfl⟩
  · obtain rfl : s = [] := List.eq_nil_of_length_eq_zero (by omega)
    have e : markS [] = (10, 0) := by decide
    rw [e]
    clear e
    go_enter Try.func15, Try.ntmps15
    go_wp2
    go_ret2
    exact ⟨rfl, rfl⟩

end Go.Proofs.Ytmmlmpcalhfigab
