/- What the document's others and Cycles answer. -/
import Derived.Test.YtfecadongbmfhaaDc4
import Derived.Test.YtfecadongbmfhaaDc5
namespace Go.Proofs.Ytfecadongbmfhaa
open Go.RowKit
set_option linter.unusedVariables false

theorem lit_BRK : ∀ f ≤ 56, (nmS f == [66, 82, 75]) = decide (f = 11) := by decide +kernel
theorem lit_JSR : ∀ f ≤ 56, (nmS f == [74, 83, 82]) = decide (f = 29) := by decide +kernel
theorem lit_RTI : ∀ f ≤ 56, (nmS f == [82, 84, 73]) = decide (f = 42) := by decide +kernel
theorem lit_RTS : ∀ f ≤ 56, (nmS f == [82, 84, 83]) = decide (f = 43) := by decide +kernel
theorem lit_JMP : ∀ f ≤ 56, (nmS f == [74, 77, 80]) = decide (f = 28) := by decide +kernel
theorem lit_PHA : ∀ f ≤ 56, (nmS f == [80, 72, 65]) = decide (f = 36) := by decide +kernel
theorem lit_PHP : ∀ f ≤ 56, (nmS f == [80, 72, 80]) = decide (f = 37) := by decide +kernel
theorem lit_PLA : ∀ f ≤ 56, (nmS f == [80, 76, 65]) = decide (f = 38) := by decide +kernel
theorem lit_PLP : ∀ f ≤ 56, (nmS f == [80, 76, 80]) = decide (f = 39) := by decide +kernel
set_option maxRecDepth 100000 in
set_option maxHeartbeats 3200000 in
theorem others_any (f k : Nat) (hf : f ≤ 56) (w : World) : Calls Try.prog 47 #[.string (bA (nmS f)), .int .i64 (k : Int)] w fun e w' => e = .returned (.int .i64 (otS f k : Int)) ∧ w' = w := by
  have qBRK : ((bA (nmS f)).toList == [66, 82, 75]) = decide (f = 11) := by rw [bA_list]; exact lit_BRK f hf
  have qJSR : ((bA (nmS f)).toList == [74, 83, 82]) = decide (f = 29) := by rw [bA_list]; exact lit_JSR f hf
  have qRTI : ((bA (nmS f)).toList == [82, 84, 73]) = decide (f = 42) := by rw [bA_list]; exact lit_RTI f hf
  have qRTS : ((bA (nmS f)).toList == [82, 84, 83]) = decide (f = 43) := by rw [bA_list]; exact lit_RTS f hf
  have qJMP : ((bA (nmS f)).toList == [74, 77, 80]) = decide (f = 28) := by rw [bA_list]; exact lit_JMP f hf
  have qPHA : ((bA (nmS f)).toList == [80, 72, 65]) = decide (f = 36) := by rw [bA_list]; exact lit_PHA f hf
  have qPHP : ((bA (nmS f)).toList == [80, 72, 80]) = decide (f = 37) := by rw [bA_list]; exact lit_PHP f hf
  have qPLA : ((bA (nmS f)).toList == [80, 76, 65]) = decide (f = 38) := by rw [bA_list]; exact lit_PLA f hf
  have qPLP : ((bA (nmS f)).toList == [80, 76, 80]) = decide (f = 39) := by rw [bA_list]; exact lit_PLP f hf
  generalize bA (nmS f) = N at *
  by_cases hBRK : f = 11
  · subst hBRK
    rw [show decide (11 = 11) = true from by decide] at qBRK
    rw [show decide (11 = 29) = false from by decide] at qJSR
    rw [show decide (11 = 42) = false from by decide] at qRTI
    rw [show decide (11 = 43) = false from by decide] at qRTS
    rw [show decide (11 = 28) = false from by decide] at qJMP
    rw [show decide (11 = 36) = false from by decide] at qPHA
    rw [show decide (11 = 37) = false from by decide] at qPHP
    rw [show decide (11 = 38) = false from by decide] at qPLA
    rw [show decide (11 = 39) = false from by decide] at qPLP
    rw [show otS 11 k = 7 from rfl]
    go_enter Try.func47, Try.ntmps47
    go_wp2_with fail
    all_goals first | (go_ret; exact ⟨rfl, rfl⟩) | (exfalso; simp_all; done)
  by_cases hJSR : f = 29
  · subst hJSR
    rw [show decide (29 = 11) = false from by decide] at qBRK
    rw [show decide (29 = 29) = true from by decide] at qJSR
    rw [show decide (29 = 42) = false from by decide] at qRTI
    rw [show decide (29 = 43) = false from by decide] at qRTS
    rw [show decide (29 = 28) = false from by decide] at qJMP
    rw [show decide (29 = 36) = false from by decide] at qPHA
    rw [show decide (29 = 37) = false from by decide] at qPHP
    rw [show decide (29 = 38) = false from by decide] at qPLA
    rw [show decide (29 = 39) = false from by decide] at qPLP
    rw [show otS 29 k = 6 from rfl]
    go_enter Try.func47, Try.ntmps47
    go_wp2_with fail
    all_goals first | (go_ret; exact ⟨rfl, rfl⟩) | (exfalso; simp_all; done)
  by_cases hRTI : f = 42
  · subst hRTI
    rw [show decide (42 = 11) = false from by decide] at qBRK
    rw [show decide (42 = 29) = false from by decide] at qJSR
    rw [show decide (42 = 42) = true from by decide] at qRTI
    rw [show decide (42 = 43) = false from by decide] at qRTS
    rw [show decide (42 = 28) = false from by decide] at qJMP
    rw [show decide (42 = 36) = false from by decide] at qPHA
    rw [show decide (42 = 37) = false from by decide] at qPHP
    rw [show decide (42 = 38) = false from by decide] at qPLA
    rw [show decide (42 = 39) = false from by decide] at qPLP
    rw [show otS 42 k = 6 from rfl]
    go_enter Try.func47, Try.ntmps47
    go_wp2_with fail
    all_goals first | (go_ret; exact ⟨rfl, rfl⟩) | (exfalso; simp_all; done)
  by_cases hRTS : f = 43
  · subst hRTS
    rw [show decide (43 = 11) = false from by decide] at qBRK
    rw [show decide (43 = 29) = false from by decide] at qJSR
    rw [show decide (43 = 42) = false from by decide] at qRTI
    rw [show decide (43 = 43) = true from by decide] at qRTS
    rw [show decide (43 = 28) = false from by decide] at qJMP
    rw [show decide (43 = 36) = false from by decide] at qPHA
    rw [show decide (43 = 37) = false from by decide] at qPHP
    rw [show decide (43 = 38) = false from by decide] at qPLA
    rw [show decide (43 = 39) = false from by decide] at qPLP
    rw [show otS 43 k = 6 from rfl]
    go_enter Try.func47, Try.ntmps47
    go_wp2_with fail
    all_goals first | (go_ret; exact ⟨rfl, rfl⟩) | (exfalso; simp_all; done)
  by_cases hJMP : f = 28
  · subst hJMP
    rw [show decide (28 = 11) = false from by decide] at qBRK
    rw [show decide (28 = 29) = false from by decide] at qJSR
    rw [show decide (28 = 42) = false from by decide] at qRTI
    rw [show decide (28 = 43) = false from by decide] at qRTS
    rw [show decide (28 = 28) = true from by decide] at qJMP
    rw [show decide (28 = 36) = false from by decide] at qPHA
    rw [show decide (28 = 37) = false from by decide] at qPHP
    rw [show decide (28 = 38) = false from by decide] at qPLA
    rw [show decide (28 = 39) = false from by decide] at qPLP
    by_cases h9 : k = 9
    · subst h9
      go_enter Try.func47, Try.ntmps47
      go_wp2_with fail
      all_goals first | (go_ret; exact ⟨rfl, rfl⟩) | (exfalso; simp_all; done)
    · have h9i : ¬ (k : Int) = 9 := by omega
      rw [show otS 28 k = 3 by unfold otS; simp [h9]]
      go_enter Try.func47, Try.ntmps47
      go_wp2_with fail
      all_goals first | (go_ret; exact ⟨rfl, rfl⟩) | (exfalso; simp_all; done)
  by_cases hPHA : f = 36
  · subst hPHA
    rw [show decide (36 = 11) = false from by decide] at qBRK
    rw [show decide (36 = 29) = false from by decide] at qJSR
    rw [show decide (36 = 42) = false from by decide] at qRTI
    rw [show decide (36 = 43) = false from by decide] at qRTS
    rw [show decide (36 = 28) = false from by decide] at qJMP
    rw [show decide (36 = 36) = true from by decide] at qPHA
    rw [show decide (36 = 37) = false from by decide] at qPHP
    rw [show decide (36 = 38) = false from by decide] at qPLA
    rw [show decide (36 = 39) = false from by decide] at qPLP
    rw [show otS 36 k = 3 from rfl]
    go_enter Try.func47, Try.ntmps47
    go_wp2_with fail
    all_goals first | (go_ret; exact ⟨rfl, rfl⟩) | (exfalso; simp_all; done)
  by_cases hPHP : f = 37
  · subst hPHP
    rw [show decide (37 = 11) = false from by decide] at qBRK
    rw [show decide (37 = 29) = false from by decide] at qJSR
    rw [show decide (37 = 42) = false from by decide] at qRTI
    rw [show decide (37 = 43) = false from by decide] at qRTS
    rw [show decide (37 = 28) = false from by decide] at qJMP
    rw [show decide (37 = 36) = false from by decide] at qPHA
    rw [show decide (37 = 37) = true from by decide] at qPHP
    rw [show decide (37 = 38) = false from by decide] at qPLA
    rw [show decide (37 = 39) = false from by decide] at qPLP
    rw [show otS 37 k = 3 from rfl]
    go_enter Try.func47, Try.ntmps47
    go_wp2_with fail
    all_goals first | (go_ret; exact ⟨rfl, rfl⟩) | (exfalso; simp_all; done)
  by_cases hPLA : f = 38
  · subst hPLA
    rw [show decide (38 = 11) = false from by decide] at qBRK
    rw [show decide (38 = 29) = false from by decide] at qJSR
    rw [show decide (38 = 42) = false from by decide] at qRTI
    rw [show decide (38 = 43) = false from by decide] at qRTS
    rw [show decide (38 = 28) = false from by decide] at qJMP
    rw [show decide (38 = 36) = false from by decide] at qPHA
    rw [show decide (38 = 37) = false from by decide] at qPHP
    rw [show decide (38 = 38) = true from by decide] at qPLA
    rw [show decide (38 = 39) = false from by decide] at qPLP
    rw [show otS 38 k = 4 from rfl]
    go_enter Try.func47, Try.ntmps47
    go_wp2_with fail
    all_goals first | (go_ret; exact ⟨rfl, rfl⟩) | (exfalso; simp_all; done)
  by_cases hPLP : f = 39
  · subst hPLP
    rw [show decide (39 = 11) = false from by decide] at qBRK
    rw [show decide (39 = 29) = false from by decide] at qJSR
    rw [show decide (39 = 42) = false from by decide] at qRTI
    rw [show decide (39 = 43) = false from by decide] at qRTS
    rw [show decide (39 = 28) = false from by decide] at qJMP
    rw [show decide (39 = 36) = false from by decide] at qPHA
    rw [show decide (39 = 37) = false from by decide] at qPHP
    rw [show decide (39 = 38) = false from by decide] at qPLA
    rw [show decide (39 = 39) = true from by decide] at qPLP
    rw [show otS 39 k = 4 from rfl]
    go_enter Try.func47, Try.ntmps47
    go_wp2_with fail
    all_goals first | (go_ret; exact ⟨rfl, rfl⟩) | (exfalso; simp_all; done)
  rw [decide_eq_false hBRK] at qBRK
  rw [decide_eq_false hJSR] at qJSR
  rw [decide_eq_false hRTI] at qRTI
  rw [decide_eq_false hRTS] at qRTS
  rw [decide_eq_false hJMP] at qJMP
  rw [decide_eq_false hPHA] at qPHA
  rw [decide_eq_false hPHP] at qPHP
  rw [decide_eq_false hPLA] at qPLA
  rw [decide_eq_false hPLP] at qPLP
  rw [show otS f k = 2 by unfold otS; simp [hBRK, hJSR, hRTI, hRTS, hJMP, hPHA, hPHP, hPLA, hPLP]]
  go_enter Try.func47, Try.ntmps47
  go_wp2_with fail
  all_goals first | (go_ret; exact ⟨rfl, rfl⟩) | (exfalso; simp_all; done)
/- which modes the classes have -/
theorem modes_of : ∀ op < 256, (clS (inS op).1 = 1 ∨ clS (inS op).1 = 2 ∨ clS (inS op).1 = 3) → (inS op).2 ≠ 0 ∧ (inS op).2 ≠ 9 ∧ (inS op).2 ≠ 12 ∧ (clS (inS op).1 = 3 → (inS op).2 ≠ 8 ∧ (inS op).2 ≠ 11) := by decide +kernel
set_option maxRecDepth 100000 in
set_option maxHeartbeats 3200000 in
theorem rcyc_no (op : Nat) (HO : Hid (∀ w, Calls Try.prog 15 #[.int .u8 (op : Int)] w fun e w' => e = .returned (.tuple #[.string (bA []), .int .i64 0, .bool false]) ∧ Below w.heap.size w w')) (w : World) : Calls Try.prog 17 #[.int .u8 (op : Int)] w fun e w' => e = .returned (.tuple #[.int .i64 0, .int .i64 0, .bool false]) ∧ Below w.heap.size w w' := by
  generalize bA [] = N at *
  go_enter Try.func17, Try.ntmps17
  go_wp2_with (go_at_call 15; refine (HO.out _).mono ?_; rintro e w1 ⟨rfl, b1⟩)
  refine bodyPost_ret (v := .tuple #[.int .i64 0, .int .i64 0, .bool false]) (by simp [results, Try.results17, go_sem]) rfl ?_
  exact ⟨rfl, b1⟩
set_option maxRecDepth 100000 in
set_option maxHeartbeats 3200000 in
theorem rcyc_4 (op : Nat) (N : ByteArray) (k : Int) (HO : Hid (∀ w, Calls Try.prog 15 #[.int .u8 (op : Int)] w fun e w' => e = .returned (.tuple #[.string N, .int .i64 k, .bool true]) ∧ Below w.heap.size w w')) (HC : Hid (∀ w, Calls Try.prog 27 #[.string N] w fun e w' => e = .returned (.int .i64 4) ∧ w' = w)) (w : World) : Calls Try.prog 17 #[.int .u8 (op : Int)] w fun e w' => e = .returned (.tuple #[.int .i64 2, .int .i64 0, .bool true]) ∧ Below w.heap.size w w' := by
  go_enter Try.func17, Try.ntmps17
  go_wp2_with (first | (go_at_call 27; refine (HC.out _).mono ?_; rintro e w2 ⟨rfl, rfl⟩) | (go_at_call 15; refine (HO.out _).mono ?_; rintro e w1 ⟨rfl, b1⟩))
  refine bodyPost_ret (v := .tuple #[.int .i64 2, .int .i64 0, .bool true]) (by simp [results, Try.results17, go_sem]) rfl ?_
  exact ⟨rfl, b1⟩
set_option maxRecDepth 100000 in
set_option maxHeartbeats 3200000 in
theorem rcyc_5 (op : Nat) (N : ByteArray) (k R : Int) (HO : Hid (∀ w, Calls Try.prog 15 #[.int .u8 (op : Int)] w fun e w' => e = .returned (.tuple #[.string N, .int .i64 k, .bool true]) ∧ Below w.heap.size w w')) (HC : Hid (∀ w, Calls Try.prog 27 #[.string N] w fun e w' => e = .returned (.int .i64 5) ∧ w' = w)) (HT : Hid (∀ w, Calls Try.prog 47 #[.string N, .int .i64 k] w fun e w' => e = .returned (.int .i64 R) ∧ w' = w)) (w : World) : Calls Try.prog 17 #[.int .u8 (op : Int)] w fun e w' => e = .returned (.tuple #[.int .i64 R, .int .i64 0, .bool true]) ∧ Below w.heap.size w w' := by
  go_enter Try.func17, Try.ntmps17
  go_wp2_with (first | (go_at_call 47; refine (HT.out _).mono ?_; rintro e w3 ⟨rfl, rfl⟩) | (go_at_call 27; refine (HC.out _).mono ?_; rintro e w2 ⟨rfl, rfl⟩) | (go_at_call 15; refine (HO.out _).mono ?_; rintro e w1 ⟨rfl, b1⟩))
  refine bodyPost_ret (v := .tuple #[.int .i64 R, .int .i64 0, .bool true]) (by simp [results, Try.results17, go_sem]) rfl ?_
  exact ⟨rfl, b1⟩
set_option maxRecDepth 100000 in
set_option maxHeartbeats 3200000 in
theorem rcyc_1 (op k : Nat) (N : ByteArray) (hk : k ≤ 12) (g0 : k ≠ 0) (g9 : k ≠ 9) (g12 : k ≠ 12) (HO : Hid (∀ w, Calls Try.prog 15 #[.int .u8 (op : Int)] w fun e w' => e = .returned (.tuple #[.string N, .int .i64 (k : Int), .bool true]) ∧ Below w.heap.size w w')) (HC : Hid (∀ w, Calls Try.prog 27 #[.string N] w fun e w' => e = .returned (.int .i64 1) ∧ w' = w)) (w : World) : Calls Try.prog 17 #[.int .u8 (op : Int)] w fun e w' => e = .returned (.tuple #[.int .i64 ((toS k + moS 1 k : Nat) : Int), .int .i64 ((if 1 = 1 ∧ crS k = true then 1 else 0 : Nat) : Int), .bool true]) ∧ Below w.heap.size w w' := by
  rcases lt13 hk with rfl | rfl | rfl | rfl | rfl | rfl | rfl | rfl | rfl | rfl | rfl | rfl | rfl
  · exact absurd rfl g0
  · clear g0 g9 g12
    go_enter Try.func17, Try.ntmps17
    go_wp2_with (first | (go_at_call 27; refine (HC.out _).mono ?_; rintro e w2 ⟨rfl, rfl⟩) | (go_at_call 15; refine (HO.out _).mono ?_; rintro e w1 ⟨rfl, b1⟩))
    refine bodyPost_ret (v := .tuple #[.int .i64 2, .int .i64 0, .bool true]) (by simp [results, Try.results17, go_sem]) rfl ?_
    exact ⟨rfl, b1⟩
  · clear g0 g9 g12
    go_enter Try.func17, Try.ntmps17
    go_wp2_with (first | (go_at_call 27; refine (HC.out _).mono ?_; rintro e w2 ⟨rfl, rfl⟩) | (go_at_call 15; refine (HO.out _).mono ?_; rintro e w1 ⟨rfl, b1⟩))
    refine bodyPost_ret (v := .tuple #[.int .i64 2, .int .i64 0, .bool true]) (by simp [results, Try.results17, go_sem]) rfl ?_
    exact ⟨rfl, b1⟩
  · clear g0 g9 g12
    go_enter Try.func17, Try.ntmps17
    go_wp2_with (first | (go_at_call 27; refine (HC.out _).mono ?_; rintro e w2 ⟨rfl, rfl⟩) | (go_at_call 15; refine (HO.out _).mono ?_; rintro e w1 ⟨rfl, b1⟩))
    refine bodyPost_ret (v := .tuple #[.int .i64 3, .int .i64 0, .bool true]) (by simp [results, Try.results17, go_sem]) rfl ?_
    exact ⟨rfl, b1⟩
  · clear g0 g9 g12
    go_enter Try.func17, Try.ntmps17
    go_wp2_with (first | (go_at_call 27; refine (HC.out _).mono ?_; rintro e w2 ⟨rfl, rfl⟩) | (go_at_call 15; refine (HO.out _).mono ?_; rintro e w1 ⟨rfl, b1⟩))
    refine bodyPost_ret (v := .tuple #[.int .i64 4, .int .i64 0, .bool true]) (by simp [results, Try.results17, go_sem]) rfl ?_
    exact ⟨rfl, b1⟩
  · clear g0 g9 g12
    go_enter Try.func17, Try.ntmps17
    go_wp2_with (first | (go_at_call 27; refine (HC.out _).mono ?_; rintro e w2 ⟨rfl, rfl⟩) | (go_at_call 15; refine (HO.out _).mono ?_; rintro e w1 ⟨rfl, b1⟩))
    refine bodyPost_ret (v := .tuple #[.int .i64 4, .int .i64 0, .bool true]) (by simp [results, Try.results17, go_sem]) rfl ?_
    exact ⟨rfl, b1⟩
  · clear g0 g9 g12
    go_enter Try.func17, Try.ntmps17
    go_wp2_with (first | (go_at_call 27; refine (HC.out _).mono ?_; rintro e w2 ⟨rfl, rfl⟩) | (go_at_call 15; refine (HO.out _).mono ?_; rintro e w1 ⟨rfl, b1⟩))
    refine bodyPost_ret (v := .tuple #[.int .i64 4, .int .i64 0, .bool true]) (by simp [results, Try.results17, go_sem]) rfl ?_
    exact ⟨rfl, b1⟩
  · clear g0 g9 g12
    go_enter Try.func17, Try.ntmps17
    go_wp2_with (first | (go_at_call 27; refine (HC.out _).mono ?_; rintro e w2 ⟨rfl, rfl⟩) | (go_at_call 15; refine (HO.out _).mono ?_; rintro e w1 ⟨rfl, b1⟩))
    refine bodyPost_ret (v := .tuple #[.int .i64 4, .int .i64 1, .bool true]) (by simp [results, Try.results17, go_sem]) rfl ?_
    exact ⟨rfl, b1⟩
  · clear g0 g9 g12
    go_enter Try.func17, Try.ntmps17
    go_wp2_with (first | (go_at_call 27; refine (HC.out _).mono ?_; rintro e w2 ⟨rfl, rfl⟩) | (go_at_call 15; refine (HO.out _).mono ?_; rintro e w1 ⟨rfl, b1⟩))
    refine bodyPost_ret (v := .tuple #[.int .i64 4, .int .i64 1, .bool true]) (by simp [results, Try.results17, go_sem]) rfl ?_
    exact ⟨rfl, b1⟩
  · exact absurd rfl g9
  · clear g0 g9 g12
    go_enter Try.func17, Try.ntmps17
    go_wp2_with (first | (go_at_call 27; refine (HC.out _).mono ?_; rintro e w2 ⟨rfl, rfl⟩) | (go_at_call 15; refine (HO.out _).mono ?_; rintro e w1 ⟨rfl, b1⟩))
    refine bodyPost_ret (v := .tuple #[.int .i64 6, .int .i64 0, .bool true]) (by simp [results, Try.results17, go_sem]) rfl ?_
    exact ⟨rfl, b1⟩
  · clear g0 g9 g12
    go_enter Try.func17, Try.ntmps17
    go_wp2_with (first | (go_at_call 27; refine (HC.out _).mono ?_; rintro e w2 ⟨rfl, rfl⟩) | (go_at_call 15; refine (HO.out _).mono ?_; rintro e w1 ⟨rfl, b1⟩))
    refine bodyPost_ret (v := .tuple #[.int .i64 5, .int .i64 1, .bool true]) (by simp [results, Try.results17, go_sem]) rfl ?_
    exact ⟨rfl, b1⟩
  · exact absurd rfl g12
set_option maxRecDepth 100000 in
set_option maxHeartbeats 3200000 in
theorem rcyc_2 (op k : Nat) (N : ByteArray) (hk : k ≤ 12) (g0 : k ≠ 0) (g9 : k ≠ 9) (g12 : k ≠ 12) (HO : Hid (∀ w, Calls Try.prog 15 #[.int .u8 (op : Int)] w fun e w' => e = .returned (.tuple #[.string N, .int .i64 (k : Int), .bool true]) ∧ Below w.heap.size w w')) (HC : Hid (∀ w, Calls Try.prog 27 #[.string N] w fun e w' => e = .returned (.int .i64 2) ∧ w' = w)) (w : World) : Calls Try.prog 17 #[.int .u8 (op : Int)] w fun e w' => e = .returned (.tuple #[.int .i64 ((toS k + moS 2 k : Nat) : Int), .int .i64 ((if 2 = 1 ∧ crS k = true then 1 else 0 : Nat) : Int), .bool true]) ∧ Below w.heap.size w w' := by
  rcases lt13 hk with rfl | rfl | rfl | rfl | rfl | rfl | rfl | rfl | rfl | rfl | rfl | rfl | rfl
  · exact absurd rfl g0
  · clear g0 g9 g12
    go_enter Try.func17, Try.ntmps17
    go_wp2_with (first | (go_at_call 27; refine (HC.out _).mono ?_; rintro e w2 ⟨rfl, rfl⟩) | (go_at_call 15; refine (HO.out _).mono ?_; rintro e w1 ⟨rfl, b1⟩))
    refine bodyPost_ret (v := .tuple #[.int .i64 2, .int .i64 0, .bool true]) (by simp [results, Try.results17, go_sem]) rfl ?_
    exact ⟨rfl, b1⟩
  · clear g0 g9 g12
    go_enter Try.func17, Try.ntmps17
    go_wp2_with (first | (go_at_call 27; refine (HC.out _).mono ?_; rintro e w2 ⟨rfl, rfl⟩) | (go_at_call 15; refine (HO.out _).mono ?_; rintro e w1 ⟨rfl, b1⟩))
    refine bodyPost_ret (v := .tuple #[.int .i64 2, .int .i64 0, .bool true]) (by simp [results, Try.results17, go_sem]) rfl ?_
    exact ⟨rfl, b1⟩
  · clear g0 g9 g12
    go_enter Try.func17, Try.ntmps17
    go_wp2_with (first | (go_at_call 27; refine (HC.out _).mono ?_; rintro e w2 ⟨rfl, rfl⟩) | (go_at_call 15; refine (HO.out _).mono ?_; rintro e w1 ⟨rfl, b1⟩))
    refine bodyPost_ret (v := .tuple #[.int .i64 3, .int .i64 0, .bool true]) (by simp [results, Try.results17, go_sem]) rfl ?_
    exact ⟨rfl, b1⟩
  · clear g0 g9 g12
    go_enter Try.func17, Try.ntmps17
    go_wp2_with (first | (go_at_call 27; refine (HC.out _).mono ?_; rintro e w2 ⟨rfl, rfl⟩) | (go_at_call 15; refine (HO.out _).mono ?_; rintro e w1 ⟨rfl, b1⟩))
    refine bodyPost_ret (v := .tuple #[.int .i64 4, .int .i64 0, .bool true]) (by simp [results, Try.results17, go_sem]) rfl ?_
    exact ⟨rfl, b1⟩
  · clear g0 g9 g12
    go_enter Try.func17, Try.ntmps17
    go_wp2_with (first | (go_at_call 27; refine (HC.out _).mono ?_; rintro e w2 ⟨rfl, rfl⟩) | (go_at_call 15; refine (HO.out _).mono ?_; rintro e w1 ⟨rfl, b1⟩))
    refine bodyPost_ret (v := .tuple #[.int .i64 4, .int .i64 0, .bool true]) (by simp [results, Try.results17, go_sem]) rfl ?_
    exact ⟨rfl, b1⟩
  · clear g0 g9 g12
    go_enter Try.func17, Try.ntmps17
    go_wp2_with (first | (go_at_call 27; refine (HC.out _).mono ?_; rintro e w2 ⟨rfl, rfl⟩) | (go_at_call 15; refine (HO.out _).mono ?_; rintro e w1 ⟨rfl, b1⟩))
    refine bodyPost_ret (v := .tuple #[.int .i64 4, .int .i64 0, .bool true]) (by simp [results, Try.results17, go_sem]) rfl ?_
    exact ⟨rfl, b1⟩
  · clear g0 g9 g12
    go_enter Try.func17, Try.ntmps17
    go_wp2_with (first | (go_at_call 27; refine (HC.out _).mono ?_; rintro e w2 ⟨rfl, rfl⟩) | (go_at_call 15; refine (HO.out _).mono ?_; rintro e w1 ⟨rfl, b1⟩))
    refine bodyPost_ret (v := .tuple #[.int .i64 5, .int .i64 0, .bool true]) (by simp [results, Try.results17, go_sem]) rfl ?_
    exact ⟨rfl, b1⟩
  · clear g0 g9 g12
    go_enter Try.func17, Try.ntmps17
    go_wp2_with (first | (go_at_call 27; refine (HC.out _).mono ?_; rintro e w2 ⟨rfl, rfl⟩) | (go_at_call 15; refine (HO.out _).mono ?_; rintro e w1 ⟨rfl, b1⟩))
    refine bodyPost_ret (v := .tuple #[.int .i64 5, .int .i64 0, .bool true]) (by simp [results, Try.results17, go_sem]) rfl ?_
    exact ⟨rfl, b1⟩
  · exact absurd rfl g9
  · clear g0 g9 g12
    go_enter Try.func17, Try.ntmps17
    go_wp2_with (first | (go_at_call 27; refine (HC.out _).mono ?_; rintro e w2 ⟨rfl, rfl⟩) | (go_at_call 15; refine (HO.out _).mono ?_; rintro e w1 ⟨rfl, b1⟩))
    refine bodyPost_ret (v := .tuple #[.int .i64 6, .int .i64 0, .bool true]) (by simp [results, Try.results17, go_sem]) rfl ?_
    exact ⟨rfl, b1⟩
  · clear g0 g9 g12
    go_enter Try.func17, Try.ntmps17
    go_wp2_with (first | (go_at_call 27; refine (HC.out _).mono ?_; rintro e w2 ⟨rfl, rfl⟩) | (go_at_call 15; refine (HO.out _).mono ?_; rintro e w1 ⟨rfl, b1⟩))
    refine bodyPost_ret (v := .tuple #[.int .i64 6, .int .i64 0, .bool true]) (by simp [results, Try.results17, go_sem]) rfl ?_
    exact ⟨rfl, b1⟩
  · exact absurd rfl g12
set_option maxRecDepth 100000 in
set_option maxHeartbeats 3200000 in
theorem rcyc_3 (op k : Nat) (N : ByteArray) (hk : k ≤ 12) (g0 : k ≠ 0) (g9 : k ≠ 9) (g12 : k ≠ 12) (g8 : k ≠ 8) (g11 : k ≠ 11) (HO : Hid (∀ w, Calls Try.prog 15 #[.int .u8 (op : Int)] w fun e w' => e = .returned (.tuple #[.string N, .int .i64 (k : Int), .bool true]) ∧ Below w.heap.size w w')) (HC : Hid (∀ w, Calls Try.prog 27 #[.string N] w fun e w' => e = .returned (.int .i64 3) ∧ w' = w)) (w : World) : Calls Try.prog 17 #[.int .u8 (op : Int)] w fun e w' => e = .returned (.tuple #[.int .i64 ((toS k + moS 3 k : Nat) : Int), .int .i64 ((if 3 = 1 ∧ crS k = true then 1 else 0 : Nat) : Int), .bool true]) ∧ Below w.heap.size w w' := by
  rcases lt13 hk with rfl | rfl | rfl | rfl | rfl | rfl | rfl | rfl | rfl | rfl | rfl | rfl | rfl
  · exact absurd rfl g0
  · clear g0 g9 g12 g8 g11
    go_enter Try.func17, Try.ntmps17
    go_wp2_with (first | (go_at_call 27; refine (HC.out _).mono ?_; rintro e w2 ⟨rfl, rfl⟩) | (go_at_call 15; refine (HO.out _).mono ?_; rintro e w1 ⟨rfl, b1⟩))
    refine bodyPost_ret (v := .tuple #[.int .i64 2, .int .i64 0, .bool true]) (by simp [results, Try.results17, go_sem]) rfl ?_
    exact ⟨rfl, b1⟩
  · clear g0 g9 g12 g8 g11
    go_enter Try.func17, Try.ntmps17
    go_wp2_with (first | (go_at_call 27; refine (HC.out _).mono ?_; rintro e w2 ⟨rfl, rfl⟩) | (go_at_call 15; refine (HO.out _).mono ?_; rintro e w1 ⟨rfl, b1⟩))
    refine bodyPost_ret (v := .tuple #[.int .i64 4, .int .i64 0, .bool true]) (by simp [results, Try.results17, go_sem]) rfl ?_
    exact ⟨rfl, b1⟩
  · clear g0 g9 g12 g8 g11
    go_enter Try.func17, Try.ntmps17
    go_wp2_with (first | (go_at_call 27; refine (HC.out _).mono ?_; rintro e w2 ⟨rfl, rfl⟩) | (go_at_call 15; refine (HO.out _).mono ?_; rintro e w1 ⟨rfl, b1⟩))
    refine bodyPost_ret (v := .tuple #[.int .i64 5, .int .i64 0, .bool true]) (by simp [results, Try.results17, go_sem]) rfl ?_
    exact ⟨rfl, b1⟩
  · clear g0 g9 g12 g8 g11
    go_enter Try.func17, Try.ntmps17
    go_wp2_with (first | (go_at_call 27; refine (HC.out _).mono ?_; rintro e w2 ⟨rfl, rfl⟩) | (go_at_call 15; refine (HO.out _).mono ?_; rintro e w1 ⟨rfl, b1⟩))
    refine bodyPost_ret (v := .tuple #[.int .i64 6, .int .i64 0, .bool true]) (by simp [results, Try.results17, go_sem]) rfl ?_
    exact ⟨rfl, b1⟩
  · clear g0 g9 g12 g8 g11
    go_enter Try.func17, Try.ntmps17
    go_wp2_with (first | (go_at_call 27; refine (HC.out _).mono ?_; rintro e w2 ⟨rfl, rfl⟩) | (go_at_call 15; refine (HO.out _).mono ?_; rintro e w1 ⟨rfl, b1⟩))
    refine bodyPost_ret (v := .tuple #[.int .i64 6, .int .i64 0, .bool true]) (by simp [results, Try.results17, go_sem]) rfl ?_
    exact ⟨rfl, b1⟩
  · clear g0 g9 g12 g8 g11
    go_enter Try.func17, Try.ntmps17
    go_wp2_with (first | (go_at_call 27; refine (HC.out _).mono ?_; rintro e w2 ⟨rfl, rfl⟩) | (go_at_call 15; refine (HO.out _).mono ?_; rintro e w1 ⟨rfl, b1⟩))
    refine bodyPost_ret (v := .tuple #[.int .i64 6, .int .i64 0, .bool true]) (by simp [results, Try.results17, go_sem]) rfl ?_
    exact ⟨rfl, b1⟩
  · clear g0 g9 g12 g8 g11
    go_enter Try.func17, Try.ntmps17
    go_wp2_with (first | (go_at_call 27; refine (HC.out _).mono ?_; rintro e w2 ⟨rfl, rfl⟩) | (go_at_call 15; refine (HO.out _).mono ?_; rintro e w1 ⟨rfl, b1⟩))
    refine bodyPost_ret (v := .tuple #[.int .i64 7, .int .i64 0, .bool true]) (by simp [results, Try.results17, go_sem]) rfl ?_
    exact ⟨rfl, b1⟩
  · exact absurd rfl g8
  · exact absurd rfl g9
  · clear g0 g9 g12 g8 g11
    go_enter Try.func17, Try.ntmps17
    go_wp2_with (first | (go_at_call 27; refine (HC.out _).mono ?_; rintro e w2 ⟨rfl, rfl⟩) | (go_at_call 15; refine (HO.out _).mono ?_; rintro e w1 ⟨rfl, b1⟩))
    refine bodyPost_ret (v := .tuple #[.int .i64 8, .int .i64 0, .bool true]) (by simp [results, Try.results17, go_sem]) rfl ?_
    exact ⟨rfl, b1⟩
  · exact absurd rfl g11
  · exact absurd rfl g12
theorem refCycles_any (op : Nat) (ho : op < 256) (w : World) : Calls Try.prog 17 #[.int .u8 (op : Int)] w fun e w' => e = .returned (cyV op) ∧ Below w.heap.size w w' := by
  have hO := fun w => refOf_any op ho w
  unfold ofR at hO
  unfold cyV
  obtain ⟨hm, hk⟩ := in_lt op ho
  by_cases h0 : (inS op).1 = 0
  · rw [if_pos h0] at hO
    rw [if_pos h0]
    exact rcyc_no op hO w
  · rw [if_neg h0] at hO
    rw [if_neg h0]
    have hC := fun w => refClass_any (nmS (inS op).1) w
    rw [fi_of _ hm (by omega)] at hC
    have hcl := (by decide +kernel : ∀ f ≤ 56, f ≠ 0 → clS f = 1 ∨ clS f = 2 ∨ clS f = 3 ∨ clS f = 4 ∨ clS f = 5) (inS op).1 hm h0
    have hmo := modes_of op ho
    unfold baS exS
    rcases hcl with hc | hc | hc | hc | hc <;> rw [hc] at hC hmo
    · obtain ⟨m1, m2, m3, m4⟩ := hmo (Or.inl rfl)
      rw [hc, if_pos (Or.inl rfl)]
      exact rcyc_1 op _ _ hk m1 m2 m3 hO hC w
    · obtain ⟨m1, m2, m3, m4⟩ := hmo (Or.inr (Or.inl rfl))
      rw [hc, if_pos (Or.inr (Or.inl rfl))]
      exact rcyc_2 op _ _ hk m1 m2 m3 hO hC w
    · obtain ⟨m1, m2, m3, m4⟩ := hmo (Or.inr (Or.inr rfl))
      rw [hc, if_pos (Or.inr (Or.inr rfl))]
      exact rcyc_3 op _ _ hk m1 m2 m3 (m4 rfl).1 (m4 rfl).2 hO hC w
    · rw [hc, if_neg (by decide), if_pos rfl]
      exact rcyc_4 op _ _ hO hC w
    · rw [hc, if_neg (by decide), if_neg (by decide)]
      exact rcyc_5 op _ _ _ hO hC (fun w => others_any _ _ hm w) w
set_option maxRecDepth 100000 in
set_option maxHeartbeats 1600000 in
theorem bytes_any (op : Nat) (ho : op < 256) (w : World) : Calls Try.prog 4 #[.int .u8 (op : Int)] w fun e w' => e = .returned (.bool true) ∧ Below w.heap.size w w' := by
  have HO : Hid (∀ w, Calls Try.prog 14 #[.int .u8 (op : Int)] w fun e w' => e = .returned (.tuple #[.string (bA (nmS (inS op).1)), .int .i64 ((inS op).2 : Int), .bool (!((inS op).1 == 0))]) ∧ Below w.heap.size w w') := fun w => of_any op ho w
  have HR : Hid (∀ w, Calls Try.prog 15 #[.int .u8 (op : Int)] w fun e w' => e = .returned (.tuple #[.string (bA (nmS (inS op).1)), .int .i64 ((inS op).2 : Int), .bool (!((inS op).1 == 0))]) ∧ Below w.heap.size w w') := fun w => by
    have h := refOf_any op ho w
    unfold ofR at h
    by_cases h0 : (inS op).1 = 0
    · rw [if_pos h0] at h
      rw [in_none op ho h0, h0]
      exact h
    · rw [if_neg h0] at h
      rw [beq_eq_false_iff_ne.2 h0]
      exact h
  have HV : Hid (∃ a b c, cyV op = .tuple #[.int .i64 a, .int .i64 b, .bool c]) := by
    unfold cyV
    split
    · exact ⟨_, _, _, rfl⟩
    · exact ⟨_, _, _, rfl⟩
  obtain ⟨a, b, c, hV⟩ := HV.out
  have HC : Hid (∀ w, Calls Try.prog 16 #[.int .u8 (op : Int)] w fun e w' => e = .returned (.tuple #[.int .i64 a, .int .i64 b, .bool c]) ∧ Below w.heap.size w w') := fun w => by rw [← hV]; exact cycles_any op ho w
  have HD : Hid (∀ w, Calls Try.prog 17 #[.int .u8 (op : Int)] w fun e w' => e = .returned (.tuple #[.int .i64 a, .int .i64 b, .bool c]) ∧ Below w.heap.size w w') := fun w => by rw [← hV]; exact refCycles_any op ho w
  have HL : Hid (∀ w, Calls Try.prog 13 #[] w fun e w' => e = .returned (.bool true) ∧ Below w.heap.size w w') := fun w => live_any w
  clear hV HV
  generalize bA (nmS (inS op).1) = N at *
  generalize ((inS op).2 : Int) = k at *
  generalize (!((inS op).1 == 0)) = B at *
  cases B
  all_goals
    cases c
    all_goals
      go_enter Try.func4, Try.ntmps4
      go_wp2_with (first | (go_at_call 13; refine (HL.out _).mono ?_; rintro e w5 ⟨rfl, b5⟩) | (go_at_call 17; refine (HD.out _).mono ?_; rintro e w4 ⟨rfl, b4⟩) | (go_at_call 16; refine (HC.out _).mono ?_; rintro e w3 ⟨rfl, b3⟩) | (go_at_call 15; refine (HR.out _).mono ?_; rintro e w2 ⟨rfl, b2⟩) | (go_at_call 14; refine (HO.out _).mono ?_; rintro e w1 ⟨rfl, b1⟩))
      go_ret
      exact ⟨rfl, Below.next (Below.next (Below.next (Below.next b1 b2) b3) b4) b5⟩
end Go.Proofs.Ytfecadongbmfhaa
