/- Texts of one proof, one behind the other. -/
import Derived.Test.YtdpkeffkpecmjaaRff
import Derived.Test.YtdpkeffkpecmjaaFnc
import Derived.Test.YtdpkeffkpecmjaaNil
import Derived.Test.YtdpkeffkpecmjaaRfc
import Derived.Laws.Build
import Derived.Test.YtdpkeffkpecmjaaRpb
import Derived.Test.YtdpkeffkpecmjaaApd
import Derived.Test.YtdpkeffkpecmjaaRpa
import Derived.Test.YtdpkeffkpecmjaaAlv
import Derived.Test.YtdpkeffkpecmjaaDvd
/- What Carry, and the calls of a field, answer: the document's. -/
namespace Go.Proofs.Ytdpkeffkpecmjaa
open Go.RowKit
set_option linter.unusedVariables false

set_option maxRecDepth 100000 in
set_option maxHeartbeats 400000 in
theorem refCarry_in (P a b : UInt8) (Q : Int) (hQ : Q = 256 + (P.toNat : Int)) (w : World) : Calls Try.prog 72 #[.int .u8 (a.toNat : Int), .int .u8 (b.toNat : Int), .int .i64 Q] w fun e w' => e = .returned (.int .u8 ((bm P a b).toNat : Int)) ∧ w' = w := by
  have hP := u8_lt P
  have ha := u8_lt a
  have hb := u8_lt b
  have HR : Hid ((bm P a b).toNat = redTo (256 + P.toNat) (prodTo a.toNat b.toNat 8) 7) := (red_prod P a b).symm
  generalize (bm P a b).toNat = R at *
  generalize a.toNat = A at *
  generalize b.toNat = B at *
  generalize P.toNat = p at *
  have HP := hidD hP
  have HQ := hidD hQ
  have hq1 : 256 ≤ Q := by omega
  have hq2 : Q ≤ 511 := by omega
  clear hQ hP
  go_enter Try.func72, Try.ntmps72
  go_wp2_with fail
  go_loopw [7, 8] (fun t i wr => ∃ k : Nat, k ≤ 8 ∧ i = .int .i64 k ∧ t = .int .i64 ((prodTo A B k : Nat) : Int) ∧ wr = w) (fun _ i _ => 8 - (intOf i).toNat)
  case atStart => exact ⟨0, Nat.zero_le _, rfl, rfl, rfl⟩
  case round =>
    obtain ⟨k, hk, rfl, rfl, rfl⟩ := hrel
    by_cases hlt : k < 8
    · have hlti : (k : Int) < 8 := by omega
      have hbit := bit_u8 k hb
      have hT := prod_lt ha (b := B) k hk
      have hsh := shl_i64 (A := A) (k := k) (by omega) (by omega)
      have hX : bits .xor .i64 (prodTo A B k : Nat) (A * 2 ^ k : Nat) = _ := i64_xor_nat _ _ (by omega) (by have := shl_nat (A := A) (k := k) (by omega) (by omega); omega)
      have HS : Hid (prodTo A B (k + 1) = prodTo A B k ^^^ sel (B.testBit k) (A * 2 ^ k)) := rfl
      generalize A * 2 ^ k = Y at *
      generalize prodTo A B k = T at *
      generalize B.testBit k = c at *
      cases c
      · go_wp2_with fail
        go_roundw
        case rel => exact ⟨k + 1, by omega, by go_num, by rw [HS.out]; simp [sel], trivial⟩
        case measure => simp [intOf]; omega
      · go_wp2_with fail
        go_roundw
        case rel => exact ⟨k + 1, by omega, by go_num, by rw [HS.out]; simp [sel], trivial⟩
        case measure => simp [intOf]; omega
    · obtain rfl : k = 8 := by omega
      have hp := prod_lt ha (b := B) 8 (Nat.le_refl _)
      generalize prodTo A B 8 = N at *
      go_wp2_with fail
      go_loopw [7, 9] (fun t i wz => ∃ k : Nat, k ≤ 7 ∧ i = .int .i64 ((14 : Int) - k) ∧ t = .int .i64 ((redTo (256 + p) N k : Nat) : Int) ∧ wz = wr) (fun _ i _ => (intOf i).toNat)
      case atStart => exact ⟨0, Nat.zero_le _, rfl, rfl, rfl⟩
      case round =>
        obtain ⟨k, hk, rfl, rfl, rfl⟩ := hrel
        by_cases hlt : k < 7
        · have hlti : (8 : Int) ≤ 14 - (k : Int) := by omega
          have hd : (14 : Int) - k = ((14 - k : Nat) : Int) := by omega
          have hd8 : ((14 - k : Nat) : Int) - 8 = ((6 - k : Nat) : Int) := by omega
          have hT := Nat.lt_of_lt_of_le (red_lt HP.out hp k hk) (Nat.pow_le_pow_right (n := 2) (by omega) (show 15 - k ≤ 15 by omega))
          have hbit := bit_i64 (v := redTo (256 + p) N k) (14 - k) (by omega)
          have hP := HP.out
          have hsh : IntKind.i64.wrap (Q * 2 ^ (6 - k)) = (((256 + p) * 2 ^ (6 - k) : Nat) : Int) := by
            rw [HQ.out, ← shl_i64 (A := 256 + p) (k := 6 - k) (by omega) (by omega)]; simp
          have hX : bits .xor .i64 (redTo (256 + p) N k : Nat) ((256 + p) * 2 ^ (6 - k) : Nat) = _ := i64_xor_nat _ _ (by omega) (by have := shl_nat (A := 256 + p) (k := 6 - k) (by omega) (by omega); omega)
          have HS : Hid (redTo (256 + p) N (k + 1) = redTo (256 + p) N k ^^^ sel ((redTo (256 + p) N k).testBit (14 - k)) ((256 + p) * 2 ^ (6 - k))) := rfl
          have HK1 : Hid ((14 : Int) - k - 1 = 14 - ((k + 1 : Nat) : Int)) := by show _ = _; omega
          have HM : Hid ((14 : Int) - k = ((14 - k : Nat) : Int)) := hd
          have hs1 : 14 - k ≤ 14 := by omega
          have hs2 : 6 - k ≤ 6 := by omega
          generalize (256 + p) * 2 ^ (6 - k) = Y at *
          generalize redTo (256 + p) N k = T at *
          generalize 6 - k = d6 at *
          generalize hs : 14 - k = d at *
          generalize T.testBit d = c at *
          have HD := hidD hs
          clear hs hP
          cases c
          · go_wp2_with fail
            go_roundw
            case rel => exact ⟨k + 1, by omega, by congr 1 <;> omega, by rw [HS.out]; simp [sel], trivial⟩
            case measure => simp [intOf]; omega
          · go_wp2_with fail
            go_roundw
            case rel => exact ⟨k + 1, by omega, by congr 1 <;> omega, by rw [HS.out]; simp [sel], trivial⟩
            case measure => simp [intOf]; omega
        · obtain rfl : k = 7 := by omega
          have hT := red_lt HP.out hp 7 (Nat.le_refl _)
          generalize redTo (256 + p) N 7 = T at *
          go_wp2_with fail
          go_ret
          exact ⟨by rw [HR.out]; rfl, rfl⟩
set_option maxRecDepth 100000 in
set_option maxHeartbeats 400000 in
theorem refCarry_out (Q : Int) (h : ¬ (256 ≤ Q ∧ Q ≤ 511)) (a b : UInt8) (w : World) : Calls Try.prog 72 #[.int .u8 (a.toNat : Int), .int .u8 (b.toNat : Int), .int .i64 Q] w fun e w' => e = .returned (.int .u8 0) ∧ w' = w := by
  by_cases h1 : 256 ≤ Q
  · have h2 : ¬ Q ≤ 511 := fun h2 => h ⟨h1, h2⟩
    clear h
    go_enter Try.func72, Try.ntmps72
    go_wp2_with fail
    go_ret
    exact ⟨rfl, rfl⟩
  · clear h
    go_enter Try.func72, Try.ntmps72
    go_wp2_with fail
    go_ret
    exact ⟨rfl, rfl⟩

set_option maxRecDepth 100000 in
set_option maxHeartbeats 400000 in
theorem refMul_any {P g : UInt8} {b : Nat} (x y : UInt8) (w : World) (hf : RfAt w b P g) : Calls Try.prog 58 #[.pointer (some ⟨b, 0, none⟩), .int .u8 (x.toNat : Int), .int .u8 (y.toNat : Int)] w fun e w' => e = .returned (.int .u8 ((bm P x y).toNat : Int)) ∧ w' = w := by
  have HC := hidD (fun w => refCarry_in P x y _ rfl w)
  have hc := hf.c0
  generalize ((bm P x y).toNat : Int) = R at *
  generalize 256 + (P.toNat : Int) = Q at *
  clear hf
  go_enter Try.func58, Try.ntmps58
  go_wp2_with (go_at_call 72; refine (HC.out _).mono ?_; rintro e w2 ⟨rfl, hb2⟩)
  go_ret
  exact ⟨rfl, rfl⟩
set_option maxRecDepth 100000 in
set_option maxHeartbeats 400000 in
theorem power_any {P g : UInt8} {b : Nat} (a : UInt8) (n : Nat) (hn : n < 9223372036854775807) (w : World) (hf : RfAt w b P g) : Calls Try.prog 59 #[.pointer (some ⟨b, 0, none⟩), .int .u8 (a.toNat : Int), .int .i64 (n : Int)] w fun e w' => e = .returned (.int .u8 ((pw P a n).toNat : Int)) ∧ w' = w := by
  have HC : Hid (∀ k, Calls Try.prog 58 #[.pointer (some ⟨b, 0, none⟩), .int .u8 ((pw P a k).toNat : Int), .int .u8 (a.toNat : Int)] w fun e w' => e = .returned (.int .u8 ((pw P a (k + 1)).toNat : Int)) ∧ w' = w) := fun k => refMul_any (pw P a k) a w hf
  generalize hR : ((pw P a n).toNat : Int) = R
  have HR := hidD hR
  clear hf hR
  go_enter Try.func59, Try.ntmps59
  go_wp2_with fail
  go_loopw [7, 8] (fun x i wr => ∃ k : Nat, k ≤ n ∧ i = .int .i64 k ∧ x = .int .u8 ((pw P a k).toNat : Int) ∧ wr = w) (fun _ i _ => n - (intOf i).toNat)
  case atStart => exact ⟨0, Nat.zero_le _, rfl, rfl, rfl⟩
  case round =>
    obtain ⟨k, hk, rfl, rfl, rfl⟩ := hrel
    by_cases hlt : k < n
    · have hlti : (k : Int) < n := by omega
      have HCk := hidD (HC.out k)
      generalize hx : ((pw P a (k + 1)).toNat : Int) = X at *
      have HX := hidD hx
      clear hx
      generalize ((pw P a k).toNat : Int) = Y at *
      go_wp2_with (go_at_call 58; refine HCk.out.mono ?_; rintro e w3 ⟨rfl, hb3⟩)
      go_roundw
      case rel => exact ⟨k + 1, by omega, by go_num, by rw [HX.out], trivial⟩
      case measure => simp [intOf]; omega
    · obtain rfl : k = n := by omega
      rw [HR.out]
      go_wp2_with fail
      go_ret
      exact ⟨rfl, rfl⟩

set_option maxRecDepth 100000 in
set_option maxHeartbeats 400000 in
theorem refInv_some {P g : UInt8} {b : Nat} (a : UInt8) (ha : a ≠ 0) (w : World) (hf : RfAt w b P g) : Calls Try.prog 71 #[.pointer (some ⟨b, 0, none⟩), .int .u8 (a.toNat : Int)] w fun e w' => e = .returned (.tuple #[.int .u8 ((inv P a).toNat : Int), .int .i64 0]) ∧ w' = w := by
  have HP : Hid (Calls Try.prog 59 #[.pointer (some ⟨b, 0, none⟩), .int .u8 (a.toNat : Int), .int .i64 254] w fun e w' => e = .returned (.int .u8 ((inv P a).toNat : Int)) ∧ w' = w) := power_any a 254 (by omega) w hf
  have h0 := u8_ne ha
  have hb := u8_bne ha
  generalize ((inv P a).toNat : Int) = R at *
  clear hf ha
  go_enter Try.func71, Try.ntmps71
  go_wp2_with (go_at_call 59; refine HP.out.mono ?_; rintro e w2 ⟨rfl, hb2⟩)
  refine bodyPost_ret (v := .tuple #[.int .u8 R, .int .i64 0]) (by simp [results, Try.results71, go_sem]) rfl ?_
  exact ⟨rfl, by first | rfl | exact hb2⟩
set_option maxRecDepth 100000 in
set_option maxHeartbeats 400000 in
theorem refInv_zero {b : Nat} (w : World) : Calls Try.prog 71 #[.pointer (some ⟨b, 0, none⟩), .int .u8 0] w fun e w' => e = .returned (.tuple #[.int .u8 0, .int .i64 51]) ∧ w' = w := by
  go_enter Try.func71, Try.ntmps71
  go_wp2_with fail
  refine bodyPost_ret (v := .tuple #[.int .u8 0, .int .i64 51]) (by simp [results, Try.results71, go_sem]) rfl ?_
  exact ⟨rfl, rfl⟩
set_option maxRecDepth 100000 in
set_option maxHeartbeats 400000 in
theorem refDiv_some {P g : UInt8} {b : Nat} (x y : UInt8) (hy : y ≠ 0) (w : World) (hf : RfAt w b P g) : Calls Try.prog 57 #[.pointer (some ⟨b, 0, none⟩), .int .u8 (x.toNat : Int), .int .u8 (y.toNat : Int)] w fun e w' => e = .returned (.tuple #[.int .u8 ((bm P x (inv P y)).toNat : Int), .int .i64 0]) ∧ w' = w := by
  have HI := hidD (refInv_some y hy w hf)
  have HM := hidD (refMul_any x (inv P y) w hf)
  generalize ((bm P x (inv P y)).toNat : Int) = R at *
  generalize ((inv P y).toNat : Int) = I at *
  clear hf hy
  go_enter Try.func57, Try.ntmps57
  go_wp2_with (first | (go_at_call 71; refine HI.out.mono ?_; rintro e w2 ⟨rfl, hb2⟩) | (go_at_call 58; refine HM.out.mono ?_; rintro e w2 ⟨rfl, hb2⟩))
  refine bodyPost_ret (v := .tuple #[.int .u8 R, .int .i64 0]) (by simp [results, Try.results57, go_sem]) rfl ?_
  exact ⟨rfl, by first | rfl | exact hb2⟩
set_option maxRecDepth 100000 in
set_option maxHeartbeats 400000 in
theorem refDiv_zero {b : Nat} (x : UInt8) (w : World) : Calls Try.prog 57 #[.pointer (some ⟨b, 0, none⟩), .int .u8 (x.toNat : Int), .int .u8 0] w fun e w' => e = .returned (.tuple #[.int .u8 0, .int .i64 51]) ∧ w' = w := by
  have HI := hidD (refInv_zero (b := b) w)
  go_enter Try.func57, Try.ntmps57
  go_wp2_with (go_at_call 71; refine HI.out.mono ?_; rintro e w2 ⟨rfl, hb2⟩)
  refine bodyPost_ret (v := .tuple #[.int .u8 0, .int .i64 51]) (by simp [results, Try.results57, go_sem]) rfl ?_
  exact ⟨rfl, by first | rfl | exact hb2⟩
set_option maxRecDepth 100000 in
set_option maxHeartbeats 400000 in
theorem refExp_any {P g : UInt8} {b : Nat} (n : Int) (w : World) (hf : RfAt w b P g) : Calls Try.prog 43 #[.pointer (some ⟨b, 0, none⟩), .int .i64 n] w fun e w' => e = .returned (.int .u8 ((pwI P g n).toNat : Int)) ∧ w' = w := by
  have hs := emod_small n
  have HP : Hid (Calls Try.prog 59 #[.pointer (some ⟨b, 0, none⟩), .int .u8 (g.toNat : Int), .int .i64 (((n % 255).toNat : Nat) : Int)] w fun e w' => e = .returned (.int .u8 ((pwI P g n).toNat : Int)) ∧ w' = w) := power_any g (n % 255).toNat (by omega) w hf
  have hc := hf.c1
  have h1 := tmod_lo n
  have h2 := tmod_hi n
  have hw1 : IntKind.i64.wrap (n.tmod 255 + 255) = n.tmod 255 + 255 := by rw [IntKind.wrap_i64]; omega
  have hw2 : wrap64 (n.tmod 255 + 255) = n.tmod 255 + 255 := by unfold wrap64; omega
  have ht := tmod2 n
  generalize ((pwI P g n).toNat : Int) = R at *
  generalize (((n % 255).toNat : Nat) : Int) = M at *
  clear hf hs
  go_enter Try.func43, Try.ntmps43
  go_wp2_with (go_at_call 59; refine HP.out.mono ?_; rintro e w2 ⟨rfl, hb2⟩)
  go_ret
  exact ⟨rfl, by first | rfl | exact hb2⟩
set_option maxRecDepth 100000 in
set_option maxHeartbeats 400000 in
theorem refPow_one {b : Nat} (a : UInt8) (w : World) : Calls Try.prog 78 #[.pointer (some ⟨b, 0, none⟩), .int .u8 (a.toNat : Int), .int .i64 0] w fun e w' => e = .returned (.tuple #[.int .u8 1, .int .i64 0]) ∧ w' = w := by
  go_enter Try.func78, Try.ntmps78
  go_wp2_with fail
  refine bodyPost_ret (v := .tuple #[.int .u8 1, .int .i64 0]) (by simp [results, Try.results78, go_sem]) rfl ?_
  exact ⟨rfl, rfl⟩
set_option maxRecDepth 100000 in
set_option maxHeartbeats 400000 in
theorem refPow_zero {b : Nat} (n : Int) (hn : n ≠ 0) (w : World) : Calls Try.prog 78 #[.pointer (some ⟨b, 0, none⟩), .int .u8 0, .int .i64 n] w fun e w' => e = .returned (.tuple #[.int .u8 0, .int .i64 (if n < 0 then 51 else 0)]) ∧ w' = w := by
  have hnb : (n == 0) = false := by simpa using hn
  by_cases h : n < 0
  · rw [if_pos h]
    go_enter Try.func78, Try.ntmps78
    go_wp2_with fail
    refine bodyPost_ret (v := .tuple #[.int .u8 0, .int .i64 51]) (by simp [results, Try.results78, go_sem]) rfl ?_
    exact ⟨rfl, rfl⟩
  · rw [if_neg h]
    go_enter Try.func78, Try.ntmps78
    go_wp2_with fail
    refine bodyPost_ret (v := .tuple #[.int .u8 0, .int .i64 0]) (by simp [results, Try.results78, go_sem]) rfl ?_
    exact ⟨rfl, rfl⟩
set_option maxRecDepth 100000 in
set_option maxHeartbeats 400000 in
theorem refPow_any {P g : UInt8} {b : Nat} (a : UInt8) (ha : a ≠ 0) (n : Int) (hn : n ≠ 0) (w : World) (hf : RfAt w b P g) : Calls Try.prog 78 #[.pointer (some ⟨b, 0, none⟩), .int .u8 (a.toNat : Int), .int .i64 n] w fun e w' => e = .returned (.tuple #[.int .u8 ((pwI P a n).toNat : Int), .int .i64 0]) ∧ w' = w := by
  have hs := emod_small n
  have HP : Hid (Calls Try.prog 59 #[.pointer (some ⟨b, 0, none⟩), .int .u8 (a.toNat : Int), .int .i64 (((n % 255).toNat : Nat) : Int)] w fun e w' => e = .returned (.int .u8 ((pwI P a n).toNat : Int)) ∧ w' = w) := power_any a (n % 255).toNat (by omega) w hf
  have hx0 := u8_ne ha
  have hxb := u8_bne ha
  have hnb : (n == 0) = false := by simpa using hn
  have h1 := tmod_lo n
  have h2 := tmod_hi n
  have hw1 : IntKind.i64.wrap (n.tmod 255 + 255) = n.tmod 255 + 255 := by rw [IntKind.wrap_i64]; omega
  have hw2 : wrap64 (n.tmod 255 + 255) = n.tmod 255 + 255 := by unfold wrap64; omega
  have ht := tmod2 n
  generalize ((pwI P a n).toNat : Int) = R at *
  generalize (((n % 255).toNat : Nat) : Int) = M at *
  clear hf hs ha
  go_enter Try.func78, Try.ntmps78
  go_wp2_with (go_at_call 59; refine HP.out.mono ?_; rintro e w2 ⟨rfl, hb2⟩)
  refine bodyPost_ret (v := .tuple #[.int .u8 R, .int .i64 0]) (by simp [results, Try.results78, go_sem]) rfl ?_
  exact ⟨rfl, by first | rfl | exact hb2⟩

end Go.Proofs.Ytdpkeffkpecmjaa
/- What Trim, Eval and Plus of the document answer. -/
namespace Go.Proofs.Ytdpkeffkpecmjaa
open Go.RowKit
set_option linter.unusedVariables false

set_option maxRecDepth 100000 in
set_option maxHeartbeats 800000 in
theorem refTrim_any (bs : List UInt8) (hbl : bs.length ≤ 281474976710656) (vb : Value) (w : World) (hs : SlAt w vb bs) : Calls Try.prog 46 #[vb] w fun e w' => ∃ v, e = .returned v ∧ SlAt w' v (trimS bs) ∧ Below w.heap.size w w' := by
  obtain ⟨⟨a, cap, rfl, hcap, hl⟩, hby⟩ := hs
  have HSH := hidD hby.shape'.2
  have HT := hidD (fun n h1 h2 h3 => trim_at (l := bs) (n := n) h1 h2 h3)
  have HBY := hidD (fun (w' : World) (h : Below w.heap.size w w') n (hn : n ≤ bs.length) => (hby.next h).take (n := n) hn)
  have HAL : Hid (∀ o, Below w.heap.size w (w.alloc o)) := fun o => (Below.refl _ _).alloc (Nat.le_refl _) o
  clear hby
  generalize hn : bs.length = n at *
  have HN := hidD hn
  generalize hTT : trimS bs = T at *
  have HTT := hidD hTT
  clear hn hTT
  go_enter Try.func46, Try.ntmps46
  go_wp2_with fail
  go_loopw [3] (fun i wr => ∃ k : Nat, k ≤ n ∧ i = .int .i64 k ∧ (∀ j, k ≤ j → cf bs j = 0) ∧ wr = w) (fun i _ => (intOf i).toNat)
  case atStart => exact ⟨n, Nat.le_refl _, rfl, fun j hj => cf_ge (by have := HN.out; omega), rfl⟩
  case round =>
    obtain ⟨k, hk, rfl, hall, rfl⟩ := hrel
    have HA := hidD hall
    clear hall
    by_cases h0 : k = 0
    · subst h0
      have HE : Hid (T = []) := by
        show _ = _
        rw [HT.out 0 (Nat.zero_le _) HA.out (.inl rfl)]; simp
      have hcapi : (0 : Int) ≤ cap := by omega
      have HOW : Hid ((wr.alloc (.cells #[] (5 : TypeId))).ownsRow wr.heap.size 5 1 (.slice (some ⟨wr.heap.size, 0, none⟩) 0 0) 0 []) := full_row (Nat.le_refl _) rfl (by unfold maxLen; omega) (heap_alloc_last _ _)
      have HBY0 : Hid (ByAt (wr.alloc (.cells #[] (5 : TypeId))) (.slice a 0 cap) []) := by
        have := HBY.out _ (HAL.out (.cells #[] (5 : TypeId))) 0 (Nat.zero_le _)
        rw [List.take_zero] at this; exact this
      clear HT HA HBY
      go_wp2_with (at_builtin; refine wpList_append_by rfl _ _ rfl wr.heap.size (.slice (some ⟨wr.heap.size, 0, none⟩) 0 0) 0 [] rfl HOW.out (.slice a 0 cap) [] rfl HBY0.out (by simp) (by simp) ?_; intro v8 w8 hown8 hg8; have HO8 := hidD hown8; have HB8 : Hid (Below wr.heap.size wr w8) := (row_grown HOW.out (HAL.out _) hg8 (by simp)); clear hown8 hg8)
      go_ret
      exact ⟨_, rfl, by rw [HE.out]; exact sl_of_own HO8.out, HB8.out⟩
    · obtain ⟨m, rfl⟩ : ∃ m, k = m + 1 := ⟨k - 1, by omega⟩
      obtain ⟨g, off, rfl, hg, hc⟩ := HSH.out m (by omega)
      have hm1 : (((m + 1 : Nat) : Int)) - 1 = (m : Int) := by omega
      have hpos : (0 : Int) < ((m + 1 : Nat) : Int) := by omega
      have hml : (m : Int) < n := by omega
      have hkc : ((m + 1 : Nat) : Int) ≤ cap := by omega
      by_cases hz : cf bs m = 0
      · have HA2 : Hid (∀ j, m ≤ j → cf bs j = 0) := fun j hj => by
          by_cases he : j = m
          · subst he; exact hz
          · exact HA.out j (by omega)
        have hv : ((cf bs m).toNat : Int) = 0 := by rw [hz]; rfl
        rw [hv] at hc
        clear hz HA hv
        go_wp2_with fail
        go_roundw
        case rel => exact ⟨m, by omega, by congr 1, HA2.out, trivial⟩
        case measure => simp [intOf]
      · have hv := u8_ne hz
        have hvb := u8_bne hz
        have HE : Hid (T = bs.take (m + 1)) := by
          show _ = _
          rw [HT.out (m + 1) (by omega) HA.out (.inr (by simpa using hz))]
        have HEL : Hid (T.length = m + 1) := by
          have hn := HN.out
          show _ = _
          rw [HE.out, List.length_take]; omega
        have HBY1 : Hid (∀ o, ByAt (wr.alloc o) (.slice (some ⟨g, off, none⟩) (m + 1) cap) T) := fun o => by
          have := HBY.out _ (HAL.out o) (m + 1) (by have := HN.out; omega)
          rw [← HE.out] at this; exact this
        clear hz HA HT HBY
        generalize ((cf bs m).toNat : Int) = v at *
        go_wp2_with (at_builtin; refine wpList_append_first rfl _ _ rfl _ rfl (.slice (some ⟨g, off, none⟩) (m + 1) cap) T rfl (HBY1.out _) (by rw [HEL.out]; omega) (by rw [HEL.out]; omega) ?_; intro v8 w8 hs8 hb8; have HS8 := hidD hs8; have HB8 := hidD (Below.next (HAL.out _) hb8); clear hs8 hb8)
        go_ret
        exact ⟨_, rfl, HS8.out, HB8.out⟩
set_option maxRecDepth 100000 in
set_option maxHeartbeats 800000 in
theorem refTrim_some (bs : List UInt8) (hne : trimS bs ≠ []) (hbl : bs.length ≤ 281474976710656) (vb : Value) (w : World) (hs : SlAt w vb bs) : Calls Try.prog 46 #[vb] w fun e w' => ∃ g cap, e = .returned (.slice (some ⟨g, 0, none⟩) (trimS bs).length cap) ∧ w.heap.size ≤ g ∧ (trimS bs).length ≤ cap ∧ cap ≤ 9223372036854775807 ∧ RowX w' g (trimS bs) ∧ Below w.heap.size w w' := by
  obtain ⟨⟨a, cap, rfl, hcap, hl⟩, hby⟩ := hs
  have HSH := hidD hby.shape'.2
  have HT := hidD (fun n h1 h2 h3 => trim_at (l := bs) (n := n) h1 h2 h3)
  have HBY := hidD (fun (w' : World) (h : Below w.heap.size w w') n (hn : n ≤ bs.length) => (hby.next h).take (n := n) hn)
  have HAL : Hid (∀ o, Below w.heap.size w (w.alloc o)) := fun o => (Below.refl _ _).alloc (Nat.le_refl _) o
  clear hby
  generalize hn : bs.length = n at *
  have HN := hidD hn
  generalize hTT : trimS bs = T at *
  have HTT := hidD hTT
  have HNE := hidD hne
  clear hn hTT
  go_enter Try.func46, Try.ntmps46
  go_wp2_with fail
  go_loopw [3] (fun i wr => ∃ k : Nat, k ≤ n ∧ i = .int .i64 k ∧ (∀ j, k ≤ j → cf bs j = 0) ∧ wr = w) (fun i _ => (intOf i).toNat)
  case atStart => exact ⟨n, Nat.le_refl _, rfl, fun j hj => cf_ge (by have := HN.out; omega), rfl⟩
  case round =>
    obtain ⟨k, hk, rfl, hall, rfl⟩ := hrel
    have HA := hidD hall
    clear hall
    by_cases h0 : k = 0
    · subst h0
      have HE : Hid (T = []) := by
        show _ = _
        rw [HT.out 0 (Nat.zero_le _) HA.out (.inl rfl)]; simp
      exact absurd HE.out HNE.out
    · obtain ⟨m, rfl⟩ : ∃ m, k = m + 1 := ⟨k - 1, by omega⟩
      obtain ⟨g, off, rfl, hg, hc⟩ := HSH.out m (by omega)
      have hm1 : (((m + 1 : Nat) : Int)) - 1 = (m : Int) := by omega
      have hpos : (0 : Int) < ((m + 1 : Nat) : Int) := by omega
      have hml : (m : Int) < n := by omega
      have hkc : ((m + 1 : Nat) : Int) ≤ cap := by omega
      by_cases hz : cf bs m = 0
      · have HA2 : Hid (∀ j, m ≤ j → cf bs j = 0) := fun j hj => by
          by_cases he : j = m
          · subst he; exact hz
          · exact HA.out j (by omega)
        have hv : ((cf bs m).toNat : Int) = 0 := by rw [hz]; rfl
        rw [hv] at hc
        clear hz HA hv
        go_wp2_with fail
        go_roundw
        case rel => exact ⟨m, by omega, by congr 1, HA2.out, trivial⟩
        case measure => simp [intOf]
      · have hv := u8_ne hz
        have hvb := u8_bne hz
        have HE : Hid (T = bs.take (m + 1)) := by
          show _ = _
          rw [HT.out (m + 1) (by omega) HA.out (.inr (by simpa using hz))]
        have HEL : Hid (T.length = m + 1) := by
          have hn := HN.out
          show _ = _
          rw [HE.out, List.length_take]; omega
        have HBY1 : Hid (∀ o, ByAt (wr.alloc o) (.slice (some ⟨g, off, none⟩) (m + 1) cap) T) := fun o => by
          have := HBY.out _ (HAL.out o) (m + 1) (by have := HN.out; omega)
          rw [← HE.out] at this; exact this
        clear hz HA HT HBY
        generalize ((cf bs m).toNat : Int) = v at *
        go_wp2_with (at_builtin; refine wpList_append_fresh rfl _ _ rfl _ rfl (.slice (some ⟨g, off, none⟩) (m + 1) cap) T rfl (HBY1.out _) (by rw [HEL.out]; omega) (by rw [HEL.out]; omega) ?_; intro c8 w8 hc8 hd8 hx8 hb8; have HX8 := hidD hx8; have HC8 := hidD hc8; have HD8 := hidD hd8; have HB8 := hidD (Below.next (HAL.out _) hb8); clear hx8 hb8 hc8 hd8)
        go_ret
        exact ⟨wr.heap.size + 1, c8, by first | rfl | (rw [HEL.out]; rfl) | (simp [HEL.out]), Nat.le_succ _, HC8.out, HD8.out, by have := HX8.out; simpa using this, HB8.out⟩

set_option maxRecDepth 100000 in
set_option maxHeartbeats 800000 in
theorem refEval_any {P G : UInt8} {b : Nat} (p : List UInt8) (x : UInt8) (v : Value) (w : World) (hf : RfAt w b P G) (hp : SlAt w v p) : Calls Try.prog 42 #[.pointer (some ⟨b, 0, none⟩), v, .int .u8 (x.toNat : Int)] w fun e w' => e = .returned (.int .u8 ((evalS P x p).toNat : Int)) ∧ Below w.heap.size w w' := by
  obtain ⟨⟨a, cap, rfl, hc1, hc2⟩, hby⟩ := hp
  have HSH := hidD hby.shape'.2
  have HF := hidD hf
  have HST := hidD (fun k h => eval_step P x p k h)
  have HMU := hidD (fun (y : UInt8) w' (h : RfAt w' b P G) => calls_below (refMul_any y x w' h))
  generalize hR : ((evalS P x p).toNat : Int) = R
  have HR : Hid (((evalS P x (p.drop (p.length - p.length))).toNat : Int) = R) := by show _ = _; rw [Nat.sub_self, List.drop_zero]; exact hR
  have H0 : Hid (evalS P x (p.drop (p.length - 0)) = 0) := by show _ = _; rw [Nat.sub_zero, List.drop_length]; rfl
  clear hf hby hR
  generalize hn : p.length = n at *
  have HN := hidD hn
  clear hn
  go_enter Try.func42, Try.ntmps42
  go_wp2_with fail
  go_loopw [7, 8] (fun y i wr => ∃ k : Nat, k ≤ n ∧ i = .int .i64 ((n : Int) - 1 - k) ∧ y = .int .u8 ((evalS P x (p.drop (n - k))).toNat : Int) ∧ Below w.heap.size w wr) (fun _ i _ => (intOf i + 1).toNat)
  case atStart => exact ⟨0, Nat.zero_le _, by congr 1; omega, by rw [H0.out]; rfl, Below.refl _ _⟩
  case round =>
    obtain ⟨k, hk, rfl, rfl, hbel⟩ := hrel
    have HBL := hidD hbel
    by_cases hlt : k < n
    · obtain ⟨g, o, rfl, hg, hc⟩ := HSH.out (n - 1 - k) (by have := HN.out; omega)
      have hix : (n : Int) - 1 - k = ((n - 1 - k : Nat) : Int) := by omega
      have HIX := hidD hix
      have hixl : ((n - 1 - k : Nat) : Int) < n := by omega
      have hix0 : (0 : Int) ≤ ((n - 1 - k : Nat) : Int) := by omega
      have hcl : ∀ i : BW wr, i.v.cell? ⟨g, o + (n - 1 - k), none⟩ = some (.int .u8 ((cf p (n - 1 - k)).toNat : Int)) := fun i => by
        rw [i.below.cell (p := ⟨g, _, none⟩) (Nat.lt_of_lt_of_le hg hbel.size), hbel.cell (p := ⟨g, _, none⟩) hg]; exact hc
      have HM := hidD (fun i : BW wr => HMU.out (evalS P x (p.drop (n - k))) i.v ((HF.out.next hbel).next i.below))
      have hxx := u8_xor_nat (bm P (evalS P x (p.drop (n - k))) x).toNat (cf p (n - 1 - k)).toNat (u8_lt _) (u8_lt _)
      rw [← UInt8.toNat_xor] at hxx
      have HS := hidD (HST.out k (by have := HN.out; omega))
      have HNX : Hid (((n - 1 - k : Nat) : Int) - 1 = (n : Int) - 1 - ((k + 1 : Nat) : Int)) := by show _ = _; omega
      generalize hv : bm P (evalS P x (p.drop (n - k))) x ^^^ cf p (n - 1 - k) = v at *
      generalize (bm P (evalS P x (p.drop (n - k))) x).toNat = m1 at *
      generalize (evalS P x (p.drop (n - k))).toNat = m0 at *
      generalize (cf p (n - 1 - k)).toNat = m2 at *
      generalize n - 1 - k = d at *
      clear hv hbel hc hg hk
      go_wp2_with fail
      refine wp_region_below (by kernel_rfl) (by kernel_rfl) ?_
      repeat (go_big_quiet_step ((go_at_call 58; exact Calls.below_of (HM.out _))))
      refine wpQuiet_nil ?_
      intro i
      go_wp2_with fail
      go_roundw
      case rel => exact ⟨k + 1, by omega, by congr 1 <;> exact HNX.out, by rw [HS.out], Below.next HBL.out i.below⟩
      case measure => have := HIX.out; simp [intOf]; omega
    · obtain rfl : k = n := by omega
      rw [HR.out]
      have hneg : ¬ (0 : Int) ≤ (k : Int) - 1 - k := by omega
      clear hbel
      go_wp2_with fail
      go_ret
      exact ⟨rfl, HBL.out⟩
set_option maxRecDepth 100000 in
set_option maxHeartbeats 800000 in
theorem refEval_nil (p : List UInt8) (x : UInt8) (v : Value) (w : World) (hp : SlAt w v p) : Calls Try.prog 42 #[.pointer none, v, .int .u8 (x.toNat : Int)] w fun e w' => e = .returned (.int .u8 0) ∧ Below w.heap.size w w' := by
  obtain ⟨⟨a, cap, rfl, hc1, hc2⟩, hby⟩ := hp
  clear hby
  generalize hn : p.length = n at *
  clear hn
  go_enter Try.func42, Try.ntmps42
  go_wp2_with fail
  go_loopw [7, 8] (fun y i wr => ∃ z : Int, i = .int .i64 z ∧ y = .int .u8 0 ∧ wr = w) (fun _ i _ => 0)
  case atStart => exact ⟨_, rfl, rfl, rfl⟩
  case round =>
    obtain ⟨z, rfl, rfl, rfl⟩ := hrel
    go_wp2_with fail
    go_ret
    exact ⟨rfl, Below.refl _ _⟩
set_option maxRecDepth 100000 in
set_option maxHeartbeats 1000000 in
theorem refPlus_any {b : Nat} (p q : List UInt8) (hpl : p.length ≤ 140737488355000) (hql : q.length ≤ 140737488355000) (vp vq : Value) (w : World) (hp : SlAt w vp p) (hq : SlAt w vq q) :
    Calls Try.prog 77 #[.pointer (some ⟨b, 0, none⟩), vp, vq] w fun e w' => ∃ v, e = .returned v ∧ SlAt w' v (trimS (plusS p q)) ∧ Below w.heap.size w w' := by
  obtain ⟨⟨a, ca, rfl, hca1, hca2⟩, hpb⟩ := hp
  obtain ⟨⟨d, cd, rfl, hcd1, hcd2⟩, hqb⟩ := hq
  have HSP := hidD hpb.shape'.2
  have HSQ := hidD hqb.shape'.2
  have HPT := hidD (fun k h => plus_take p q k h)
  have HLEN : Hid ((plusS p q).length = max p.length q.length) := by show _ = _; simp [plusS]
  have HTR := hidD (fun w' v (h : SlAt w' v (plusS p q)) => refTrim_any (plusS p q) (by rw [HLEN.out]; omega) v w' h)
  have HPC : Hid (∀ k, p.length ≤ k → cf p k = 0) := fun k h => cf_ge h
  have HQC : Hid (∀ k, q.length ≤ k → cf q k = 0) := fun k h => cf_ge h
  clear hpb hqb hca1 hca2 hcd1 hcd2
  generalize hlp : p.length = lp at *
  generalize hlq : q.length = lq at *
  have HLP := hidD hlp
  have HLQ := hidD hlq
  clear hlp hlq
  generalize hS : plusS p q = S at *
  have HSS := hidD hS
  clear hS
  have HAL : Hid (∀ (w' : World) o, Below w'.heap.size w' (w'.alloc o)) := fun w' o => (Below.refl _ _).alloc (Nat.le_refl _) o
  go_enter Try.func77, Try.ntmps77
  go_wp2_with fail
  go_loopw [7, 8] (fun o i wr => ∃ k : Nat, k ≤ max lp lq ∧ i = .int .i64 k ∧ wr.ownsRow w.heap.size 5 1 o k ((S.take k).map encB) ∧ Below w.heap.size w wr) (fun _ i _ => max lp lq - (intOf i).toNat)
  case atStart => exact ⟨0, Nat.zero_le _, rfl, World.ownsRow_nil _ _ _ _, Below.refl _ _⟩
  case round =>
    obtain ⟨k, hk, rfl, hown, hbel⟩ := hrel
    have HBL := hidD hbel
    have HOW := hidD hown
    by_cases hlt : k < max lp lq
    · have HNX := hidD (HPT.out k hlt)
      have hki : (k : Int) < lp ∨ ¬ (k : Int) < lp := Classical.em _
      have HO1 : Hid (∀ c, (wr.alloc c).ownsRow w.heap.size 5 1 u7 k ((S.take k).map encB)) := fun c => hown.alloc c
      have HBS : Hid (∀ y : UInt8, ByAt (wr.alloc (.cells #[.int .u8 (y.toNat : Int)] (5 : TypeId))) (.slice (some ⟨wr.heap.size, 0, none⟩) 1 1) [y]) := fun y => append_one y hown
      have HSZ : Hid (w.heap.size ≤ wr.heap.size) := hbel.size
      have hkm : k + 1 ≤ 140737488355328 := by omega
      have HKM : Hid (k < max lp lq) := hlt
      have hor : k < lp ∨ k < lq := by omega
      have HCP : Hid (k < lp → ∃ g o, a = some ⟨g, o, none⟩ ∧ wr.cell? ⟨g, o + k, none⟩ = some (.int .u8 ((cf p k).toNat : Int))) := fun h => by
        obtain ⟨g, o, he, hg, hc⟩ := HSP.out k (by have := HLP.out; omega)
        exact ⟨g, o, he, by rw [hbel.cell (p := ⟨g, _, none⟩) hg]; exact hc⟩
      have HCQ : Hid (k < lq → ∃ g o, d = some ⟨g, o, none⟩ ∧ wr.cell? ⟨g, o + k, none⟩ = some (.int .u8 ((cf q k).toNat : Int))) := fun h => by
        obtain ⟨g, o, he, hg, hc⟩ := HSQ.out k (by have := HLQ.out; omega)
        exact ⟨g, o, he, by rw [hbel.cell (p := ⟨g, _, none⟩) hg]; exact hc⟩
      clear hown hbel hki hlt hk
      by_cases h1 : k < lp
      · obtain ⟨g1, o1, rfl, hc1⟩ := HCP.out h1
        have h1i : (k : Int) < lp := by omega
        have hz1 := zero_xor_u8 (cf p k)
        by_cases h2 : k < lq
        · obtain ⟨g2, o2, rfl, hc2⟩ := HCQ.out h2
          have h2i : (k : Int) < lq := by omega
          have hz2 := xor_u8 (cf p k) (cf q k)
          generalize hx : cf p k ^^^ cf q k = x at *
          clear hx hor
          generalize ((cf p k).toNat : Int) = pk at *
          generalize ((cf q k).toNat : Int) = qk at *
          go_wp2_with (at_builtin; refine wpList_append_by rfl _ _ rfl w.heap.size u7 k ((S.take k).map encB) rfl (HO1.out _) (.slice (some ⟨wr.heap.size, 0, none⟩) 1 1) [x] rfl (HBS.out x) (by simpa using hkm) (by have := HSZ.out; simp; omega) ?_; intro v8 w8 hown8 hg8; have HO8 := hidD hown8; have HB8 := hidD (row_grown (HO1.out _) (Below.next HBL.out (HAL.out _ _)) hg8 (by have := HSZ.out; simp; omega)); clear hown8 hg8)
          go_roundw
          case rel => exact ⟨k + 1, HKM.out, by go_num, by rw [HNX.out]; exact HO8.out, HB8.out⟩
          case measure => have := HKM.out; simp [intOf]; omega
        · have h2i : ¬ (k : Int) < lq := by omega
          have HQZ := hidD (HQC.out k (by omega))
          rw [HQZ.out, xor_zero'] at HNX
          generalize hx : cf p k = x at *
          clear hx hor HCQ HCP HPC HQC HQZ
          go_wp2_with (at_builtin; refine wpList_append_by rfl _ _ rfl w.heap.size u7 k ((S.take k).map encB) rfl (HO1.out _) (.slice (some ⟨wr.heap.size, 0, none⟩) 1 1) [x] rfl (HBS.out x) (by simpa using hkm) (by have := HSZ.out; simp; omega) ?_; intro v8 w8 hown8 hg8; have HO8 := hidD hown8; have HB8 := hidD (row_grown (HO1.out _) (Below.next HBL.out (HAL.out _ _)) hg8 (by have := HSZ.out; simp; omega)); clear hown8 hg8)
          go_roundw
          case rel => exact ⟨k + 1, HKM.out, by go_num, by rw [HNX.out]; exact HO8.out, HB8.out⟩
          case measure => have := HKM.out; simp [intOf]; omega
      · have h2 : k < lq := by omega
        obtain ⟨g2, o2, rfl, hc2⟩ := HCQ.out h2
        have h1i : ¬ (k : Int) < lp := by omega
        have h2i : (k : Int) < lq := by omega
        have hz2 := zero_xor_u8 (cf q k)
        have HPZ := hidD (HPC.out k (by omega))
        rw [HPZ.out, UInt8.zero_xor] at HNX
        generalize hx : cf q k = x at *
        clear hx hor HCQ HCP HPC HQC HPZ
        go_wp2_with (at_builtin; refine wpList_append_by rfl _ _ rfl w.heap.size u7 k ((S.take k).map encB) rfl (HO1.out _) (.slice (some ⟨wr.heap.size, 0, none⟩) 1 1) [x] rfl (HBS.out x) (by simpa using hkm) (by have := HSZ.out; simp; omega) ?_; intro v8 w8 hown8 hg8; have HO8 := hidD hown8; have HB8 := hidD (row_grown (HO1.out _) (Below.next HBL.out (HAL.out _ _)) hg8 (by have := HSZ.out; simp; omega)); clear hown8 hg8)
        go_roundw
        case rel => exact ⟨k + 1, HKM.out, by go_num, by rw [HNX.out]; exact HO8.out, HB8.out⟩
        case measure => have := HKM.out; simp [intOf]; omega
    · obtain rfl : k = max lp lq := by omega
      have h1i : ¬ ((max lp lq : Nat) : Int) < lp := by omega
      have h2i : ¬ ((max lp lq : Nat) : Int) < lq := by omega
      have hsl : SlAt wr u7 S := sl_of_own (base := w.heap.size) (by
        have := hown
        rw [← HLEN.out, List.take_length] at this; exact this)
      have HT := hidD (HTR.out wr u7 hsl)
      clear hown hbel hsl
      generalize max lp lq = M at *
      go_wp2_with (go_at_call 46; refine HT.out.mono ?_; rintro e w9 ⟨v9, rfl, hs9, hb9⟩)
      go_ret
      exact ⟨_, rfl, hs9, Below.next HBL.out hb9⟩
set_option maxRecDepth 100000 in
set_option maxHeartbeats 800000 in
theorem refPlus_nil (vp vq : Value) (w : World) : Calls Try.prog 77 #[.pointer none, vp, vq] w fun e w' => e = .returned (.slice none 0 0) ∧ Below w.heap.size w w' := by
  have HW : Hid (Below w.heap.size w w) := Below.refl _ _
  go_enter Try.func77, Try.ntmps77
  go_wp2_with fail
  go_ret
  exact ⟨rfl, HW.out⟩
end Go.Proofs.Ytdpkeffkpecmjaa
/- What the document's Times answers. -/
namespace Go.Proofs.Ytdpkeffkpecmjaa
open Go.RowKit
set_option linter.unusedVariables false

end Go.Proofs.Ytdpkeffkpecmjaa
/- What Times of the document answers. -/
namespace Go.Proofs.Ytdpkeffkpecmjaa
open Go.RowKit
set_option linter.unusedVariables false


set_option maxRecDepth 100000 in
set_option maxHeartbeats 800000 in
theorem refTimes_nil (vp vq : Value) (w : World) : Calls Try.prog 45 #[.pointer none, vp, vq] w fun e w' => e = .returned (.slice none 0 0) ∧ Below w.heap.size w w' := by
  have HW : Hid (Below w.heap.size w w) := Below.refl _ _
  go_enter Try.func45, Try.ntmps45
  go_wp2_with fail
  go_ret
  exact ⟨rfl, HW.out⟩
set_option maxRecDepth 100000 in
set_option maxHeartbeats 800000 in
theorem refTimes_none {b : Nat} (p q : List UInt8) (hpq : p = [] ∨ q = []) (vp vq : Value) (w : World) (hp : SlAt w vp p) (hq : SlAt w vq q) : Calls Try.prog 45 #[.pointer (some ⟨b, 0, none⟩), vp, vq] w fun e w' => e = .returned (.slice none 0 0) ∧ Below w.heap.size w w' := by
  obtain ⟨⟨a, ca, rfl, hca1, hca2⟩, hpb⟩ := hp
  obtain ⟨⟨d, cd, rfl, hcd1, hcd2⟩, hqb⟩ := hq
  have HW : Hid (Below w.heap.size w w) := Below.refl _ _
  have hl : p.length = 0 ∨ q.length = 0 := hpq.imp (fun h => by rw [h]; rfl) (fun h => by rw [h]; rfl)
  clear hpb hqb hpq
  generalize p.length = lp at *
  generalize q.length = lq at *
  by_cases h0 : lp = 0
  · subst h0
    clear hl
    go_enter Try.func45, Try.ntmps45
    go_wp2_with fail
    go_ret
    exact ⟨rfl, HW.out⟩
  · obtain rfl : lq = 0 := by omega
    have hb0 : ((lp : Int) == 0) = false := by simp; omega
    have hi0 : ¬ (lp : Int) = 0 := by omega
    clear hl
    go_enter Try.func45, Try.ntmps45
    go_wp2_with fail
    go_ret
    exact ⟨rfl, HW.out⟩
set_option maxRecDepth 100000 in
set_option maxHeartbeats 2000000 in
theorem refTimes_some {P G : UInt8} {b : Nat} (p q : List UInt8) (hp0 : p ≠ []) (hq0 : q ≠ []) (hsum : p.length + q.length ≤ 281474976710657) (vp vq : Value) (w : World) (hf : RfAt w b P G) (hp : SlAt w vp p) (hq : SlAt w vq q) :
    Calls Try.prog 45 #[.pointer (some ⟨b, 0, none⟩), vp, vq] w fun e w' => ∃ v, e = .returned v ∧ SlAt w' v (trimS (timesS P p q)) ∧ Below w.heap.size w w' := by
  obtain ⟨⟨a, ca, rfl, hca1, hca2⟩, hpb⟩ := hp
  obtain ⟨⟨d, cd, rfl, hcd1, hcd2⟩, hqb⟩ := hq
  have hpl : 0 < p.length := List.length_pos_iff.2 hp0
  have hql : 0 < q.length := List.length_pos_iff.2 hq0
  have HSP := hidD hpb.shape'.2
  have HSQ := hidD hqb.shape'.2
  have HFD := hidD hf
  have HMU := hidD (fun (x y : UInt8) w' (h : RfAt w' b P G) => calls_below (refMul_any x y w' h))
  have HALL : Hid (prodL P p q (p.length + q.length - 1) p.length = timesS P p q) := prodL_all P p q
  have HZ := hidD (prodL_zero P p q (p.length + q.length - 1))
  have HPS := hidD (fun i => prodL_step P p q (p.length + q.length - 1) i)
  have HPL := hidD (fun i => prodL_length P p q (p.length + q.length - 1) i)
  have HST := hidD (fun (L : List UInt8) i c k (hk : k < q.length) (h : i + q.length ≤ L.length) => addL_step P L i q c k hk h)
  have HA0 := hidD (fun (L : List UInt8) i c => addL_nil P L i c)
  have HAL := hidD (fun (L : List UInt8) i c k => addL_length P L i (q.take k) c)
  have HQT : Hid (q.take q.length = q) := List.take_length
  have HTR := hidD (fun w' v (h : SlAt w' v (timesS P p q)) => refTrim_any (timesS P p q) (by simp [timesS]; omega) v w' h)
  clear hpb hqb hp0 hq0 hf hca1 hca2 hcd1 hcd2
  generalize timesS P p q = S at *
  generalize hlp : p.length = tp at *
  generalize hlq : q.length = tq at *
  have HLP := hidD hlp
  have HLQ := hidD hlq
  obtain ⟨n, hn⟩ : ∃ n, tp + tq - 1 = n := ⟨_, rfl⟩
  rw [hn] at HALL HZ HPS HPL
  have hni : (tp : Int) + tq - 1 = (n : Int) := by omega
  have hnl : n ≤ 281474976710656 := by omega
  have htpb : tp ≤ 281474976710656 := by omega
  have htqb : tq ≤ 281474976710656 := by omega
  have hb0 : ((tp : Int) == 0) = false := by simp; omega
  have hi0 : ¬ (tp : Int) = 0 := by omega
  have hb1 : ((tq : Int) == 0) = false := by simp; omega
  have hi1 : ¬ (tq : Int) = 0 := by omega
  have HNN := hidD hn
  have HQ0 := hidD hql
  clear hn hlp hlq hpl hql hsum
  obtain ⟨i0, hi, hz0, hz1, hz2⟩ := info_parts Try.info5
  go_enter Try.func45, Try.ntmps45
  go_wp2_with (at_make; refine wpList_make_full _ rfl _ _ 22 rfl w.heap.size 5 i0 (.int .u8 0) 1 Try.underlying22 hi hz0 hz1 _ _ _ _ n rfl rfl (by omega) (by omega) (by rw [hz2]; omega) (by unfold maxLen; omega) (Nat.le_refl _) ?_; intro w3 hown3 hg3; have HR3 := hidD (row_of_made hown3); have HB3 : Hid (Below w.heap.size w w3) := ((Below.refl w.heap.size w).grown hg3 (Nat.le_refl _) (fun k hk => by cases hk)); clear hown3 hg3)
  have HR0 : Hid (RowAt w3 w.heap.size (prodL P p q n 0)) := by rw [HZ.out]; exact HR3.out
  clear hni HR3
  obtain ⟨g, hg⟩ : ∃ g, g = w.heap.size := ⟨_, rfl⟩
  rw [← hg] at HR0
  rw [← hg]
  have HG := hidD hg
  clear hg
  go_loopw [8, 9] (fun i j wr => ∃ k : Nat, k ≤ tp ∧ i = .int .i64 k ∧ RowAt wr g (prodL P p q n k) ∧ Below w.heap.size w wr) (fun i _ _ => tp - (intOf i).toNat)
  case atStart => exact ⟨0, Nat.zero_le _, rfl, HR0.out, HB3.out⟩
  case round =>
    obtain ⟨k, hk, rfl, hrow, hbel⟩ := hrel
    obtain ⟨wo, hwo⟩ : ∃ wo, wo = wr := ⟨_, rfl⟩
    subst hwo
    have HBO := hidD hbel
    by_cases hlt : k < tp
    · have hlti : (k : Int) < tp := by omega
      have HLT := hidD hlt
      obtain ⟨g1, o1, rfl, hg1, hc1⟩ := HSP.out k (by have := HLP.out; omega)
      have HC1 : Hid (∀ w', Below w.heap.size w w' → w'.cell? ⟨g1, o1 + k, none⟩ = some (.int .u8 ((cf p k).toNat : Int))) := fun w' h => by rw [h.cell (p := ⟨g1, _, none⟩) hg1]; exact hc1
      have HRI : Hid (RowAt wo g (addL P (prodL P p q n k) k (q.take 0) (cf p k))) := by rw [List.take_zero, HA0.out]; exact hrow
      have HSTk := hidD (fun j hj => HST.out (prodL P p q n k) k (cf p k) j hj (by rw [HPL.out]; have := HNN.out; omega))
      have HPSk := hidD (HPS.out k)
      have HLk := hidD (fun j => HAL.out (prodL P p q n k) k (cf p k) j)
      have HLn := hidD (HPL.out k)
      clear hrow hbel hc1 hg1
      generalize prodL P p q n k = L at *
      go_wp2_with fail
      go_loopw [9] (fun j wr => ∃ m : Nat, m ≤ tq ∧ j = .int .i64 m ∧ RowAt wr g (addL P L k (q.take m) (cf p k)) ∧ Below w.heap.size w wr) (fun j _ => tq - (intOf j).toNat)
      case atStart => exact ⟨0, Nat.zero_le _, rfl, HRI.out, HBO.out⟩
      case round =>
        obtain ⟨m, hm, rfl, hrow, hbel⟩ := hrel
        have HBL := hidD hbel
        have HRW := hidD hrow
        by_cases hmt : m < tq
        · have hmti : (m : Int) < tq := by omega
          obtain ⟨g2, o2, rfl, hg2, hc2⟩ := HSQ.out m (by have := HLQ.out; omega)
          have hc1 := HC1.out wr hbel
          have hc1n : ∀ n, (wr.drewN n).cell? ⟨g1, o1 + k, none⟩ = some (.int .u8 ((cf p k).toNat : Int)) := fun n => hc1
          have hc2' : wr.cell? ⟨g2, o2 + m, none⟩ = some (.int .u8 ((cf q m).toNat : Int)) := by rw [hbel.cell (p := ⟨g2, _, none⟩) hg2]; exact hc2
          have hc2n : ∀ n, (wr.drewN n).cell? ⟨g2, o2 + m, none⟩ = some (.int .u8 ((cf q m).toNat : Int)) := fun n => hc2'
          have hkmn : k + m < n := by have := HNN.out; omega
          have hcr0 : wr.cell? ⟨g, k + m, none⟩ = some (.int .u8 ((cf (addL P L k (q.take m) (cf p k)) (k + m)).toNat : Int)) := hrow.cell (by rw [HLk.out, HLn.out]; exact hkmn)
          have hcrn : ∀ n, (wr.drewN n).cell? ⟨g, k + m, none⟩ = some (.int .u8 ((cf (addL P L k (q.take m) (cf p k)) (k + m)).toNat : Int)) := fun n => hcr0
          have hkml : ((k + m : Nat) : Int) < n := by omega
          have hkw1 : IntKind.i64.wrap ((k : Int) + m) = ((k + m : Nat) : Int) := by rw [IntKind.wrap_i64]; omega
          have hkw2 : wrap64 ((k : Int) + m) = ((k + m : Nat) : Int) := by unfold wrap64; omega
          have HM := hidD (fun w' (hb : Below wr.heap.size wr w') => HMU.out (cf p k) (cf q m) w' (HFD.out.next (Below.next hbel hb)))
          have hx := u8_xor_nat (cf (addL P L k (q.take m) (cf p k)) (k + m)).toNat (bm P (cf p k) (cf q m)).toNat (u8_lt _) (u8_lt _)
          rw [← UInt8.toNat_xor] at hx
          have HS := hidD (HSTk.out m (by have := HLQ.out; omega))
          generalize hv : cf (addL P L k (q.take m) (cf p k)) (k + m) ^^^ bm P (cf p k) (cf q m) = v at *
          generalize (cf (addL P L k (q.take m) (cf p k)) (k + m)).toNat = x at *
          generalize (bm P (cf p k) (cf q m)).toNat = y at *
          generalize (cf q m).toNat = dq at *
          generalize (cf p k).toNat = dp at *
          generalize k + m = km at *
          clear hv hbel hrow hc2 hg2
          go_wp2_with fail
          go_region_with (go_at_call 58; refine (HM.out _ ((Below.refl wr.heap.size wr).drew)).mono ?_; rintro e w4 ⟨rfl, hb4⟩; have hb5 : Below wr.heap.size wr w4 := ((Below.refl wr.heap.size wr).drew).trans hb4; have HR4 := hidD (HRW.out.next hb5); have HB4 := hidD hb5; have j8 : w4.cell? ⟨g, km, none⟩ = some (.int .u8 (x : Int)) := (hb5.cell (p := ⟨g, km, none⟩) HRW.out.lt).trans hcr0; have f8 := HR4.out.frozen km; clear hb4 hb5)
          all_goals
            go_wp2
            go_roundw
            case rel => exact ⟨m + 1, by omega, by go_num, by rw [← HS.out]; exact HR4.out.set _ _, (Below.next HBL.out HB4.out).setCell (p := ⟨g, km, none⟩) (by rw [HG.out]; exact Nat.le_refl _) _⟩
            case measure => simp [intOf]; omega
        · obtain rfl : m = tq := by omega
          have HRN : Hid (RowAt wr g (prodL P p q n (k + 1))) := by
            have := hrow
            rw [HQT.out, HPSk.out] at this; exact this
          clear hrow hbel
          go_wp2_with fail
          go_roundw
          case rel => exact ⟨k + 1, HLT.out, by go_num, HRN.out, HBL.out⟩
          case measure => have := HLT.out; simp [intOf]; omega
    · obtain rfl : k = tp := by omega
      rw [HALL.out] at hrow
      have HT := hidD (HTR.out wo _ (SlAt.row hrow (by rw [← HALL.out, HPL.out]) (by omega)))
      clear hrow hbel
      go_wp2_with (go_at_call 46; refine HT.out.mono ?_; rintro e w9 ⟨v9, rfl, hs9, hb9⟩)
      go_ret
      exact ⟨_, rfl, hs9, Below.next HBO.out hb9⟩
end Go.Proofs.Ytdpkeffkpecmjaa
/- What the document's Divide answers. -/
namespace Go.Proofs.Ytdpkeffkpecmjaa
open Go.RowKit
set_option linter.unusedVariables false

theorem RowAt.putx {w : World} {g k : Nat} {L : List UInt8} (h : RowAt w g L) (hn : g ≠ k) (i : Nat) (v : Value) : RowAt (w.setCell ⟨k, i, none⟩ v) g L := (Below.heap_setCell w ⟨k, i, none⟩ v g hn).trans h
theorem RowX.but {w w' : World} {g h : Nat} {L : List UInt8} (hr : RowX w g L) (hb : ∀ k, k < w.heap.size → k ≠ h → w'.heap[k]? = w.heap[k]?) (hn : g ≠ h) : RowX w' g L := by
  obtain ⟨cs, hr⟩ := hr
  exact ⟨cs, (hb g (row_lt hr) hn).trans hr⟩
end Go.Proofs.Ytdpkeffkpecmjaa
/- What Divide of the document answers. -/
namespace Go.Proofs.Ytdpkeffkpecmjaa
open Go.RowKit
set_option linter.unusedVariables false


set_option maxRecDepth 100000 in
set_option maxHeartbeats 800000 in
theorem refDivide_nil (vp vq : Value) (w : World) : Calls Try.prog 38 #[.pointer none, vp, vq] w fun e w' => e = .returned (.tuple #[.slice none 0 0, .slice none 0 0, .int .i64 2]) ∧ Below w.heap.size w w' := by
  have HW : Hid (Below w.heap.size w w) := Below.refl _ _
  go_enter Try.func38, Try.ntmps38
  go_wp2_with fail
  refine bodyPost_ret (v := .tuple #[.slice none 0 0, .slice none 0 0, .int .i64 2]) (by simp [results, Try.results38, go_sem]) rfl ?_
  exact ⟨rfl, HW.out⟩
set_option maxRecDepth 100000 in
set_option maxHeartbeats 800000 in
theorem refDivide_zero {b : Nat} (q : List UInt8) (hql : q.length ≤ 281474976710656) (hq0 : trimS q = []) (vp vq : Value) (w : World) (hq : SlAt w vq q) : Calls Try.prog 38 #[.pointer (some ⟨b, 0, none⟩), vp, vq] w fun e w' => e = .returned (.tuple #[.slice none 0 0, .slice none 0 0, .int .i64 51]) ∧ Below w.heap.size w w' := by
  have HT := hidD (refTrim_any q hql vq w hq)
  rw [hq0] at HT
  clear hq hq0 hql
  go_enter Try.func38, Try.ntmps38
  go_wp2_with (go_at_call 46; refine HT.out.mono ?_; rintro e w2 ⟨v, rfl, hs2, hb2⟩; obtain ⟨⟨a5, c5, rfl, hc51, hc52⟩, hs5b⟩ := hs2; clear hs5b hc51 hc52)
  refine bodyPost_ret (v := .tuple #[.slice none 0 0, .slice none 0 0, .int .i64 51]) (by simp [results, Try.results38, go_sem]) rfl ?_
  exact ⟨rfl, hb2⟩
set_option maxRecDepth 100000 in
set_option maxHeartbeats 800000 in
theorem refDivide_short {b : Nat} (p q : List UInt8) (hpl : p.length ≤ 281474976710656) (hql : q.length ≤ 281474976710656) (hlt : (trimS p).length < (trimS q).length) (vp vq : Value) (w : World) (hp : SlAt w vp p) (hq : SlAt w vq q) : Calls Try.prog 38 #[.pointer (some ⟨b, 0, none⟩), vp, vq] w fun e w' => ∃ v, e = .returned (.tuple #[.slice none 0 0, v, .int .i64 0]) ∧ SlAt w' v (trimS p) ∧ Below w.heap.size w w' := by
  have HT := hidD (refTrim_any q hql vq w hq)
  have HTP := hidD (fun w' (h : Below w.heap.size w w') => refTrim_any p hpl vp w' (hp.next h))
  clear hq hp hpl hql
  generalize trimS p = T at *
  generalize trimS q = Tq at *
  have hlti : (T.length : Int) < (Tq.length : Int) := by omega
  have hq0 : ¬ (Tq.length : Int) = 0 := by omega
  have hqb : ((Tq.length : Int) == 0) = false := by simpa using hq0
  go_enter Try.func38, Try.ntmps38
  go_wp2_with (first
    | (go_at_call 46; refine HT.out.mono ?_; rintro e w2 ⟨v, rfl, hs2, hb2⟩; obtain ⟨⟨a5, c5, rfl, hc51, hc52⟩, hs5b⟩ := hs2; have HB2 := hidD hb2; clear hs5b hc51 hc52 hb2 HT)
    | (go_at_call 46; refine (HTP.out _ HB2.out).mono ?_; rintro e w3 ⟨v3, rfl, hs3, hb3⟩; obtain ⟨⟨a6, c6, rfl, hc61, hc62⟩, hs6b⟩ := hs3; have HS3 : Hid (SlAt w3 (.slice a6 T.length c6) T) := ⟨⟨a6, c6, rfl, hc61, hc62⟩, hs6b⟩; have HB3 := hidD (Below.next HB2.out hb3); clear hs6b hc61 hc62 hb3 HTP))
  refine bodyPost_ret (v := .tuple #[.slice none 0 0, .slice a6 T.length c6, .int .i64 0]) (by simp [results, Try.results38, go_sem]) rfl ?_
  exact ⟨_, rfl, HS3.out, HB3.out⟩
set_option maxRecDepth 100000 in
set_option maxHeartbeats 4000000 in
theorem refDivide_long {P G : UInt8} {b : Nat} (p q : List UInt8) (hq0 : trimS q ≠ []) (hge : (trimS q).length ≤ (trimS p).length) (hpl : p.length ≤ 281474976710655) (hql0 : q.length ≤ 281474976710655) (vp vq : Value) (w : World) (hf : RfAt w b P G) (hp : SlAt w vp p) (hq : SlAt w vq q) :
    Calls Try.prog 38 #[.pointer (some ⟨b, 0, none⟩), vp, vq] w fun e w' => ∃ v1 v2, e = .returned (.tuple #[v1, v2, .int .i64 0]) ∧ SlAt w' v1 (trimS (divS P (trimS p) (trimS q)).2) ∧ SlAt w' v2 (trimS (divS P (trimS p) (trimS q)).1) ∧ Below w.heap.size w w' := by
  have hp0 : trimS p ≠ [] := fun h => by
    have := List.length_pos_iff.2 hq0
    rw [h] at hge; simp at hge; exact hq0 hge
  have HT := hidD (refTrim_some q hq0 (by omega) vq w hq)
  have HTP := hidD (fun w' (h : Below w.heap.size w w') => refTrim_some p hp0 (by omega) vp w' (hp.next h))
  have hml : (trimS p).length ≤ 281474976710655 := Nat.le_trans (trim_len p) hpl
  have hmq : (trimS q).length ≤ 281474976710655 := Nat.le_trans (trim_len q) hql0
  have hql : 0 < (trimS q).length := List.length_pos_iff.2 hq0
  have hlast := trim_last q hq0
  have HDIV := hidD (fun (x : UInt8) w' (h : RfAt w' b P G) => calls_below (refDiv_some x (cf (trimS q) ((trimS q).length - 1)) hlast w' h))
  have HMUL := hidD (fun (x y : UInt8) w' (h : RfAt w' b P G) => calls_below (refMul_any x y w' h))
  have HST := hidD (fun (L : List UInt8) i c k (hk : k < (trimS q).length) (h : i + (trimS q).length ≤ L.length) => addL_step P L i (trimS q) c k hk h)
  have HA0 := hidD (fun (L : List UInt8) i c => addL_nil P L i c)
  have HAL := hidD (fun (L : List UInt8) i c k => addL_length P L i ((trimS q).take k) c)
  have HQT : Hid ((trimS q).take (trimS q).length = trimS q) := List.take_length
  have HDV : Hid (divGo P (trimS q) (inv P (cf (trimS q) ((trimS q).length - 1))) ((trimS p).length - (trimS q).length + 1) (trimS p) (List.replicate ((trimS p).length - (trimS q).length + 1) 0) = divS P (trimS p) (trimS q)) := rfl
  have HSTP : Hid (∀ m r a', divGo P (trimS q) (inv P (cf (trimS q) ((trimS q).length - 1))) (m + 1) r a' = divGo P (trimS q) (inv P (cf (trimS q) ((trimS q).length - 1))) m (addL P r m (trimS q) (bm P (cf r (m + (trimS q).length - 1)) (inv P (cf (trimS q) ((trimS q).length - 1))))) (a'.set m (bm P (cf r (m + (trimS q).length - 1)) (inv P (cf (trimS q) ((trimS q).length - 1)))))) := fun m r a' => rfl
  have HEND : Hid (∀ r a', divGo P (trimS q) (inv P (cf (trimS q) ((trimS q).length - 1))) 0 r a' = (r, a')) := fun r a' => rfl
  have HL2 : Hid ((divS P (trimS p) (trimS q)).2.length = (trimS p).length - (trimS q).length + 1) := (divS_len P _ _).2
  have HL1 : Hid ((divS P (trimS p) (trimS q)).1.length = (trimS p).length) := (divS_len P _ _).1
  have HTR := hidD (fun (l : List UInt8) (hl : l.length ≤ 281474976710656) w' v (h : SlAt w' v l) => refTrim_any l hl v w' h)
  generalize hF : divS P (trimS p) (trimS q) = F at *
  have HFD := hidD hf
  clear hp hq hpl hql0 hq0 hp0 hF hf
  have HQL : Hid (((cf (trimS q) ((trimS q).length - 1)).toNat : Int) = ((cf (trimS q) ((trimS q).length - 1)).toNat : Int)) := rfl
  generalize hiv : inv P (cf (trimS q) ((trimS q).length - 1)) = iv at *
  clear hiv HQL
  generalize hq' : trimS q = q' at *
  generalize hT : trimS p = T at *
  generalize htl : T.length = tp at *
  generalize htq : q'.length = tq at *
  have HTL := hidD htl
  have HTLQ := hidD htq
  clear hT htl hq' htq
  generalize hm0 : tp - tq + 1 = m0 at *
  have hm0i : (tp : Int) - tq + 1 = (m0 : Int) := by omega
  have hlti : ¬ (tp : Int) < tq := by omega
  have hq0 : ¬ (tq : Int) = 0 := by omega
  have hqb : ((tq : Int) == 0) = false := by simpa using hq0
  have HM0 := hidD hm0
  have HTQ0 := hidD hql
  have hm0l : m0 ≤ 281474976710656 := by omega
  have HTQ1 : Hid (tq - 1 + 1 = tq) := by show _ = _; omega
  generalize tq - 1 = t1 at *
  clear hm0 hql hge hlast
  obtain ⟨i0, hi, hz0, hz1, hz2⟩ := info_parts Try.info5
  go_enter Try.func38, Try.ntmps38
  go_wp2_with (first
    | (go_at_call 46; refine HT.out.mono ?_; rintro e w1 ⟨gq, cq, rfl, hge1, hcq1, hcq2, hx1, hb1⟩; have HX1 := hidD hx1; have HB1 := hidD hb1; have HE1 := hidD hge1; clear hx1 hb1 hge1 hcq1 hcq2 HT)
    | (go_at_call 46; refine (HTP.out _ HB1.out).mono ?_; rintro e w2 ⟨gr, cr, rfl, hge2, hcr1, hcr2, hx2, hb2⟩; have HX2 := hidD hx2; have HB2 := hidD (Below.next HB1.out hb2); have HX12 := hidD (HX1.out.next hb2); have HE2 := hidD (Nat.le_trans HB1.out.size hge2); have HQR := hidD (Nat.lt_of_lt_of_le HX1.out.lt hge2); have hcr := hcr1; have hcrm := hcr2; clear hx2 hb2 hge2 hcr1 hcr2 HTP)
    | (at_make; refine wpList_make_full _ rfl _ _ 22 rfl w2.heap.size 5 i0 (.int .u8 0) 1 Try.underlying22 hi hz0 hz1 _ _ _ _ m0 rfl rfl (by omega) (by omega) (by rw [hz2]; omega) (by unfold maxLen; omega) (Nat.le_refl _) ?_; intro w3 hown3 hg3; have HR3 := hidD (row_of_made hown3); have hb3 : Below w2.heap.size w2 w3 := ((Below.refl w2.heap.size w2).grown hg3 (Nat.le_refl _) (fun k hk => by cases hk)); have HB3 := hidD (Below.next HB2.out hb3); have HX3 := hidD (HX2.out.next hb3); have HX13 := hidD (HX12.out.next hb3); have HRA := hidD HX2.out.lt; have HE3 := hidD HB2.out.size; clear hown3 hg3 hb3))
  clear hm0i hlti
  obtain ⟨ga, hga⟩ : ∃ ga, ga = w2.heap.size := ⟨_, rfl⟩
  rw [← hga] at HR3 HRA HE3
  rw [← hga]
  clear hga
  have HNQR : Hid (gq ≠ gr) := Nat.ne_of_lt HQR.out
  have HNRA : Hid (gr ≠ ga) := Nat.ne_of_lt HRA.out
  have HNQA : Hid (gq ≠ ga) := Nat.ne_of_lt (Nat.lt_trans HQR.out HRA.out)
  go_loopw [11, 14] (fun i z wr => ∃ k : Nat, k ≤ m0 ∧ i = .int .i64 ((k : Int) - 1) ∧ (∃ R A : List UInt8, R.length = tp ∧ A.length = m0 ∧ RowX wr gr R ∧ RowAt wr ga A ∧ divGo P q' iv k R A = F) ∧ RowX wr gq q' ∧ Below w.heap.size w wr) (fun i _ _ => (intOf i + 1).toNat)
  case atStart => exact ⟨m0, Nat.le_refl _, rfl, ⟨T, List.replicate m0 0, HTL.out, List.length_replicate, HX3.out, HR3.out, HDV.out⟩, HX13.out, HB3.out⟩
  case round =>
    obtain ⟨k, hk, rfl, ⟨R, A, hRl, hAl, hrr, hra, hdv⟩, hrq, hbel⟩ := hrel
    obtain ⟨wo, hwo⟩ : ∃ wo, wo = wr := ⟨_, rfl⟩
    subst hwo
    by_cases hk0 : k = 0
    · subst hk0
      rw [HEND.out] at hdv
      have HF1 : Hid (F.1 = R) := by show _ = _; rw [← hdv]
      have HF2 : Hid (F.2 = A) := by show _ = _; rw [← hdv]
      have HT2 := hidD (HTR.out A (by omega) wo (.slice (some ⟨ga, 0, none⟩) m0 m0) (SlAt.row hra hAl.symm (by omega)))
      have HT1 := hidD (fun w' (h : Below wo.heap.size wo w') => HTR.out R (by omega) w' (.slice (some ⟨gr, 0, none⟩) tp cr) ((hrr.next h).sl hRl.symm hcr hcrm))
      have HBL := hidD hbel
      clear hrr hra hrq hdv hRl hAl hbel
      go_wp2_with (first
        | (go_at_call 46; refine HT2.out.mono ?_; rintro e w7 ⟨v7, rfl, hs7, hb7⟩; have HS7 := hidD hs7; have HB7 := hidD hb7; clear hs7 hb7 HT2)
        | (go_at_call 46; refine (HT1.out _ HB7.out).mono ?_; rintro e w8 ⟨v8, rfl, hs8, hb8⟩; have HS8 := hidD hs8; have HS7 := hidD (HS7.out.next hb8); have HB8 := hidD (Below.next (Below.next HBL.out HB7.out) hb8); clear hs8 hb8 HT1))
      refine bodyPost_ret (v := .tuple #[v7, v8, .int .i64 0]) (by simp [results, Try.results38, go_sem]) rfl ?_
      exact ⟨_, _, rfl, by rw [HF2.out]; exact HS7.out, by rw [HF1.out]; exact HS8.out, HB8.out⟩
    · obtain ⟨j, rfl⟩ : ∃ j, k = j + 1 := ⟨k - 1, by omega⟩
      have hji : ((j + 1 : Nat) : Int) - 1 = (j : Int) := by omega
      rw [hji]
      clear hji
      have hj0 : (0 : Int) ≤ j := by omega
      have hjm : (j : Int) < m0 := by omega
      have hjt : j + t1 < tp := by have := HM0.out; have := HTQ1.out; omega
      have hjti : (j : Int) + tq - 1 = ((j + t1 : Nat) : Int) := by have := HTQ1.out; omega
      have hjtl : ((j + t1 : Nat) : Int) < tp := by omega
      have ht1i : (tq : Int) - 1 = (t1 : Int) := by have := HTQ1.out; omega
      have ht1l : (t1 : Int) < tq := by have := HTQ1.out; omega
      have hcr1 : ∀ i : BW wo, i.v.cell? ⟨gr, j + t1, none⟩ = some (.int .u8 ((cf R (j + t1)).toNat : Int)) := fun i => (hrr.next i.below).cell (by rw [hRl]; exact hjt)
      have hcq1 : ∀ i : BW wo, i.v.cell? ⟨gq, t1, none⟩ = some (.int .u8 ((cf q' t1).toNat : Int)) := fun i => (hrq.next i.below).cell (by have := HTLQ.out; have := HTQ1.out; omega)
      have HD := hidD (fun i : BW wo => HDIV.out (cf R (j + t1)) i.v ((HFD.out.next hbel).next i.below))
      rw [HSTP.out, show j + tq - 1 = j + t1 by have := HTQ1.out; omega] at hdv
      have HDVN := hidD hdv
      have HRR := hidD hrr
      have HRA' := hidD hra
      have HRQ := hidD hrq
      have HBL := hidD hbel
      have HRL := hidD hRl
      have HALn := hidD hAl
      have HJM : Hid (j < m0) := by show _ < _; omega
      have HJT : Hid (j + tq ≤ tp) := by show _ ≤ _; have := HTQ1.out; omega
      generalize bm P (cf R (j + t1)) iv = c at *
      generalize (cf R (j + t1)).toNat = rv at *
      generalize (cf q' t1).toNat = qv at *
      clear hrr hra hrq hdv hbel hRl hAl
      generalize j + t1 = jt at *
      go_wp2_with fail
      refine wp_region_below (by kernel_rfl) (by kernel_rfl) ?_
      repeat (go_big_quiet_step ((go_at_call 57; exact Calls.below_of (HD.out _))))
      refine wpQuiet_nil ?_
      intro i
      have hra6 := HRA'.out.next i.below
      obtain ⟨cv, hcv⟩ : ∃ v, i.v.cell? ⟨ga, j, none⟩ = some v := ⟨_, hra6.cell (by rw [HALn.out]; exact HJM.out)⟩
      have hfz := hra6.frozen j
      have HA7 := hidD (hra6.set j c)
      have HR7 := hidD ((HRR.out.next i.below).put HNRA.out j (.int .u8 (c.toNat : Int)))
      have HQ7 := hidD ((HRQ.out.next i.below).put HNQA.out j (.int .u8 (c.toNat : Int)))
      have HB7 := hidD ((Below.next HBL.out i.below).setCell (p := ⟨ga, j, none⟩) HE3.out (.int .u8 (c.toNat : Int)))
      clear hra6 hcr1 hcq1
      generalize i.v = w6 at *
      go_wp2_with fail
      generalize w6.setCell ⟨ga, j, none⟩ (.int .u8 (c.toNat : Int)) = w7 at *
      have HRI : Hid (RowX w7 gr (addL P R j (q'.take 0) c)) := by rw [List.take_zero, HA0.out]; exact HR7.out
      have HSTk := hidD (fun m hm => HST.out R j c m hm (by rw [HRL.out]; exact HJT.out))
      have HLk := hidD (fun m => HAL.out R j c m)
      have HLA : Hid ((A.set j c).length = m0) := by show _ = _; rw [List.length_set]; exact HALn.out
      clear hcv hfz
      go_loopw [14] (fun z wr => ∃ m : Nat, m ≤ tq ∧ z = .int .i64 m ∧ RowX wr gr (addL P R j (q'.take m) c) ∧ RowAt wr ga (A.set j c) ∧ RowX wr gq q' ∧ Below w.heap.size w wr) (fun z _ => tq - (intOf z).toNat)
      case atStart => exact ⟨0, Nat.zero_le _, rfl, HRI.out, HA7.out, HQ7.out, HB7.out⟩
      case round =>
        obtain ⟨m, hm, rfl, hrow, hrowa, hrowq, hbel⟩ := hrel
        have HBL2 := hidD hbel
        have HRW := hidD hrow
        have HRWA := hidD hrowa
        have HRWQ := hidD hrowq
        by_cases hmt : m < tq
        · have hmti : (m : Int) < tq := by omega
          have hcq' : wr.cell? ⟨gq, m, none⟩ = some (.int .u8 ((cf q' m).toNat : Int)) := hrowq.cell (by have := HTLQ.out; omega)
          have hcqn : ∀ n, (wr.drewN n).cell? ⟨gq, m, none⟩ = some (.int .u8 ((cf q' m).toNat : Int)) := fun n => hcq'
          have hjmt : j + m < tp := by have := HJT.out; omega
          have hcr0 : wr.cell? ⟨gr, j + m, none⟩ = some (.int .u8 ((cf (addL P R j (q'.take m) c) (j + m)).toNat : Int)) := hrow.cell (by rw [HLk.out, HRL.out]; exact hjmt)
          have hcrn : ∀ n, (wr.drewN n).cell? ⟨gr, j + m, none⟩ = some (.int .u8 ((cf (addL P R j (q'.take m) c) (j + m)).toNat : Int)) := fun n => hcr0
          have hkml : ((j + m : Nat) : Int) < tp := by omega
          have hkw1 : IntKind.i64.wrap ((j : Int) + m) = ((j + m : Nat) : Int) := by rw [IntKind.wrap_i64]; omega
          have hkw2 : wrap64 ((j : Int) + m) = ((j + m : Nat) : Int) := by unfold wrap64; omega
          have HM := hidD (fun w' (hb : Below wr.heap.size wr w') => HMUL.out c (cf q' m) w' (HFD.out.next (Below.next hbel hb)))
          have hx := u8_xor_nat (cf (addL P R j (q'.take m) c) (j + m)).toNat (bm P c (cf q' m)).toNat (u8_lt _) (u8_lt _)
          rw [← UInt8.toNat_xor] at hx
          have HS := hidD (HSTk.out m (by have := HTLQ.out; omega))
          have HLS : Hid (j + m < (addL P R j (q'.take m) c).length) := by show _ < _; rw [HLk.out, HRL.out]; exact hjmt
          generalize hv : cf (addL P R j (q'.take m) c) (j + m) ^^^ bm P c (cf q' m) = v at *
          generalize (cf (addL P R j (q'.take m) c) (j + m)).toNat = x at *
          generalize (bm P c (cf q' m)).toNat = y at *
          generalize (cf q' m).toNat = dq at *
          generalize j + m = jm at *
          clear hv hbel hrow hrowa hrowq hjmt
          go_wp2_with fail
          go_region_with (go_at_call 58; refine (HM.out _ ((Below.refl wr.heap.size wr).drew)).mono ?_; rintro e w4 ⟨rfl, hb4⟩; have hb5 : Below wr.heap.size wr w4 := ((Below.refl wr.heap.size wr).drew).trans hb4; have HR4 := hidD (HRW.out.next hb5); have HQ4 := hidD (HRWQ.out.next hb5); have HA4 := hidD (HRWA.out.next hb5); have HB4 := hidD hb5; have j8 : w4.cell? ⟨gr, jm, none⟩ = some (.int .u8 (x : Int)) := (hb5.cell (p := ⟨gr, jm, none⟩) HRW.out.lt).trans hcr0; have f8 := HR4.out.frozen jm; clear hb4 hb5)
          all_goals
            go_wp2
            go_roundw
            case rel => exact ⟨m + 1, by omega, by go_num, by rw [← HS.out]; exact HR4.out.set HLS.out _, HA4.out.putx (fun h => HNRA.out h.symm) _ _, HQ4.out.put HNQR.out _ _, (Below.next HBL2.out HB4.out).setCell (p := ⟨gr, jm, none⟩) HE2.out _⟩
            case measure => simp [intOf]; omega
        · obtain rfl : m = tq := by omega
          have HRN : Hid (RowX wr gr (addL P R j q' c)) := by
            have := hrow
            rw [HQT.out] at this; exact this
          have HLR : Hid ((addL P R j q' c).length = tp) := by
            show _ = _
            have := HLk.out m
            rw [HQT.out] at this
            rw [this]; exact HRL.out
          clear hrow hrowa hrowq hbel
          go_wp2_with fail
          go_roundw
          case rel => exact ⟨j, Nat.le_of_lt HJM.out, by congr 1, ⟨_, _, HLR.out, HLA.out, HRN.out, HRWA.out, HDVN.out⟩, HRWQ.out, HBL2.out⟩
          case measure => simp [intOf]
end Go.Proofs.Ytdpkeffkpecmjaa
/- What the document's Trim and Divide hand out is new memory. -/
namespace Go.Proofs.Ytdpkeffkpecmjaa
open Go.RowKit
set_option linter.unusedVariables false

set_option maxRecDepth 100000 in
set_option maxHeartbeats 800000 in
theorem refTrim_own (bs : List UInt8) (hbl : bs.length ≤ 65536) (vb : Value) (w : World) (hs : SlAt w vb bs) : Calls Try.prog 46 #[vb] w fun e w' => ∃ v, e = .returned v ∧ w'.ownsRow w.heap.size 5 1 v (trimS bs).length ((trimS bs).map encB) ∧ Below w.heap.size w w' := by
  obtain ⟨⟨a, cap, rfl, hcap, hl⟩, hby⟩ := hs
  have HSH := hidD hby.shape'.2
  have HT := hidD (fun n h1 h2 h3 => trim_at (l := bs) (n := n) h1 h2 h3)
  have HBY := hidD (fun (w' : World) (h : Below w.heap.size w w') n (hn : n ≤ bs.length) => (hby.next h).take (n := n) hn)
  have HAL : Hid (∀ o, Below w.heap.size w (w.alloc o)) := fun o => (Below.refl _ _).alloc (Nat.le_refl _) o
  clear hby
  generalize hn : bs.length = n at *
  have HN := hidD hn
  generalize hTT : trimS bs = T at *
  have HTT := hidD hTT
  clear hn hTT
  go_enter Try.func46, Try.ntmps46
  go_wp2_with fail
  go_loopw [3] (fun i wr => ∃ k : Nat, k ≤ n ∧ i = .int .i64 k ∧ (∀ j, k ≤ j → cf bs j = 0) ∧ wr = w) (fun i _ => (intOf i).toNat)
  case atStart => exact ⟨n, Nat.le_refl _, rfl, fun j hj => cf_ge (by have := HN.out; omega), rfl⟩
  case round =>
    obtain ⟨k, hk, rfl, hall, rfl⟩ := hrel
    have HA := hidD hall
    clear hall
    by_cases h0 : k = 0
    · subst h0
      have HE : Hid (T = []) := by
        show _ = _
        rw [HT.out 0 (Nat.zero_le _) HA.out (.inl rfl)]; simp
      have hcapi : (0 : Int) ≤ cap := by omega
      have HOW : Hid ((wr.alloc (.cells #[] (5 : TypeId))).ownsRow wr.heap.size 5 1 (.slice (some ⟨wr.heap.size, 0, none⟩) 0 0) 0 []) := full_row (Nat.le_refl _) rfl (by unfold maxLen; omega) (heap_alloc_last _ _)
      have HBY0 : Hid (ByAt (wr.alloc (.cells #[] (5 : TypeId))) (.slice a 0 cap) []) := by
        have := HBY.out _ (HAL.out (.cells #[] (5 : TypeId))) 0 (Nat.zero_le _)
        rw [List.take_zero] at this; exact this
      clear HT HA HBY
      go_wp2_with (at_builtin; refine wpList_append_by rfl _ _ rfl wr.heap.size (.slice (some ⟨wr.heap.size, 0, none⟩) 0 0) 0 [] rfl HOW.out (.slice a 0 cap) [] rfl HBY0.out (by simp) (by simp) ?_; intro v8 w8 hown8 hg8; have HO8 := hidD hown8; have HB8 : Hid (Below wr.heap.size wr w8) := (row_grown HOW.out (HAL.out _) hg8 (by simp)); clear hown8 hg8)
      go_ret
      exact ⟨_, rfl, by rw [HE.out]; exact HO8.out, HB8.out⟩
    · obtain ⟨m, rfl⟩ : ∃ m, k = m + 1 := ⟨k - 1, by omega⟩
      obtain ⟨g, off, rfl, hg, hc⟩ := HSH.out m (by omega)
      have hm1 : (((m + 1 : Nat) : Int)) - 1 = (m : Int) := by omega
      have hpos : (0 : Int) < ((m + 1 : Nat) : Int) := by omega
      have hml : (m : Int) < n := by omega
      have hkc : ((m + 1 : Nat) : Int) ≤ cap := by omega
      by_cases hz : cf bs m = 0
      · have HA2 : Hid (∀ j, m ≤ j → cf bs j = 0) := fun j hj => by
          by_cases he : j = m
          · subst he; exact hz
          · exact HA.out j (by omega)
        have hv : ((cf bs m).toNat : Int) = 0 := by rw [hz]; rfl
        rw [hv] at hc
        clear hz HA hv
        go_wp2_with fail
        go_roundw
        case rel => exact ⟨m, by omega, by congr 1, HA2.out, trivial⟩
        case measure => simp [intOf]
      · have hv := u8_ne hz
        have hvb := u8_bne hz
        have HE : Hid (T = bs.take (m + 1)) := by
          show _ = _
          rw [HT.out (m + 1) (by omega) HA.out (.inr (by simpa using hz))]
        have HEL : Hid (T.length = m + 1) := by
          have hn := HN.out
          show _ = _
          rw [HE.out, List.length_take]; omega
        have HBY1 : Hid (∀ o, ByAt (wr.alloc o) (.slice (some ⟨g, off, none⟩) (m + 1) cap) T) := fun o => by
          have := HBY.out _ (HAL.out o) (m + 1) (by have := HN.out; omega)
          rw [← HE.out] at this; exact this
        clear hz HA HT HBY
        generalize ((cf bs m).toNat : Int) = v at *
        have HOW : Hid ((wr.alloc (.cells #[] (5 : TypeId))).ownsRow wr.heap.size 5 1 (.slice (some ⟨wr.heap.size, 0, none⟩) 0 0) 0 []) := full_row (Nat.le_refl _) rfl (by unfold maxLen; omega) (heap_alloc_last _ _)
        go_wp2_with (at_builtin; refine wpList_append_by rfl _ _ rfl wr.heap.size (.slice (some ⟨wr.heap.size, 0, none⟩) 0 0) 0 [] rfl HOW.out (.slice (some ⟨g, off, none⟩) (m + 1) cap) T rfl (HBY1.out _) (by rw [HEL.out]; omega) (by simp) ?_; intro v8 w8 hown8 hg8; rw [Nat.zero_add, List.nil_append] at hown8; have HO8 := hidD hown8; have HB8 : Hid (Below wr.heap.size wr w8) := (row_grown HOW.out (HAL.out _) hg8 (by simp)); clear hown8 hg8)
        go_ret
        exact ⟨_, rfl, HO8.out, HB8.out⟩
set_option maxRecDepth 100000 in
set_option maxHeartbeats 800000 in
theorem refDivide_short_own {b : Nat} (p q : List UInt8) (hpl : p.length ≤ 65536) (hql : q.length ≤ 281474976710656) (hlt : (trimS p).length < (trimS q).length) (vp vq : Value) (w : World) (hp : SlAt w vp p) (hq : SlAt w vq q) : Calls Try.prog 38 #[.pointer (some ⟨b, 0, none⟩), vp, vq] w fun e w' => ∃ v B, e = .returned (.tuple #[.slice none 0 0, v, .int .i64 0]) ∧ w.heap.size ≤ B ∧ B ≤ w'.heap.size ∧ w'.ownsRow B 5 1 v (trimS p).length ((trimS p).map encB) ∧ Below w.heap.size w w' := by
  have HT := hidD (refTrim_any q hql vq w hq)
  have HTP := hidD (fun w' (h : Below w.heap.size w w') => refTrim_own p hpl vp w' (hp.next h))
  clear hq hp hpl hql
  generalize trimS p = T at *
  generalize trimS q = Tq at *
  have hlti : (T.length : Int) < (Tq.length : Int) := by omega
  have hq0 : ¬ (Tq.length : Int) = 0 := by omega
  have hqb : ((Tq.length : Int) == 0) = false := by simpa using hq0
  go_enter Try.func38, Try.ntmps38
  go_wp2_with (first
    | (go_at_call 46; refine HT.out.mono ?_; rintro e w2 ⟨v, rfl, hs2, hb2⟩; obtain ⟨⟨a5, c5, rfl, hc51, hc52⟩, hs5b⟩ := hs2; have HB2 := hidD hb2; clear hs5b hc51 hc52 hb2 HT)
    | (go_at_call 46; refine (HTP.out _ HB2.out).mono ?_; rintro e w3 ⟨v3, rfl, hs3, hb3⟩; obtain ⟨a6, c6, hv6⟩ := row_shape hs3; subst hv6; have HS3 := hidD hs3; have HZ3 := hidD hb3.size; have HB3 := hidD (Below.next HB2.out hb3); clear hs3 hb3 HTP))
  refine bodyPost_ret (v := .tuple #[.slice none 0 0, .slice a6 T.length c6, .int .i64 0]) (by simp [results, Try.results38, go_sem]) rfl ?_
  exact ⟨_, _, rfl, HB2.out.size, HZ3.out, HS3.out, HB3.out⟩
set_option maxRecDepth 100000 in
set_option maxHeartbeats 4000000 in
theorem refDivide_long_own {P G : UInt8} {b : Nat} (p q : List UInt8) (hq0 : trimS q ≠ []) (hge : (trimS q).length ≤ (trimS p).length) (hpl : p.length ≤ 65535) (hql0 : q.length ≤ 281474976710655) (vp vq : Value) (w : World) (hf : RfAt w b P G) (hp : SlAt w vp p) (hq : SlAt w vq q) :
    Calls Try.prog 38 #[.pointer (some ⟨b, 0, none⟩), vp, vq] w fun e w' => ∃ v1 v2 B, e = .returned (.tuple #[v1, v2, .int .i64 0]) ∧ w.heap.size ≤ B ∧ B ≤ w'.heap.size ∧ w'.ownsRow B 5 1 v2 (trimS (divS P (trimS p) (trimS q)).1).length ((trimS (divS P (trimS p) (trimS q)).1).map encB) ∧ Below w.heap.size w w' := by
  have hp0 : trimS p ≠ [] := fun h => by
    have := List.length_pos_iff.2 hq0
    rw [h] at hge; simp at hge; exact hq0 hge
  have HT := hidD (refTrim_some q hq0 (by omega) vq w hq)
  have HTP := hidD (fun w' (h : Below w.heap.size w w') => refTrim_some p hp0 (by omega) vp w' (hp.next h))
  have hml : (trimS p).length ≤ 65535 := Nat.le_trans (trim_len p) hpl
  have hmq : (trimS q).length ≤ 281474976710655 := Nat.le_trans (trim_len q) hql0
  have hql : 0 < (trimS q).length := List.length_pos_iff.2 hq0
  have hlast := trim_last q hq0
  have HDIV := hidD (fun (x : UInt8) w' (h : RfAt w' b P G) => calls_below (refDiv_some x (cf (trimS q) ((trimS q).length - 1)) hlast w' h))
  have HMUL := hidD (fun (x y : UInt8) w' (h : RfAt w' b P G) => calls_below (refMul_any x y w' h))
  have HST := hidD (fun (L : List UInt8) i c k (hk : k < (trimS q).length) (h : i + (trimS q).length ≤ L.length) => addL_step P L i (trimS q) c k hk h)
  have HA0 := hidD (fun (L : List UInt8) i c => addL_nil P L i c)
  have HAL := hidD (fun (L : List UInt8) i c k => addL_length P L i ((trimS q).take k) c)
  have HQT : Hid ((trimS q).take (trimS q).length = trimS q) := List.take_length
  have HDV : Hid (divGo P (trimS q) (inv P (cf (trimS q) ((trimS q).length - 1))) ((trimS p).length - (trimS q).length + 1) (trimS p) (List.replicate ((trimS p).length - (trimS q).length + 1) 0) = divS P (trimS p) (trimS q)) := rfl
  have HSTP : Hid (∀ m r a', divGo P (trimS q) (inv P (cf (trimS q) ((trimS q).length - 1))) (m + 1) r a' = divGo P (trimS q) (inv P (cf (trimS q) ((trimS q).length - 1))) m (addL P r m (trimS q) (bm P (cf r (m + (trimS q).length - 1)) (inv P (cf (trimS q) ((trimS q).length - 1))))) (a'.set m (bm P (cf r (m + (trimS q).length - 1)) (inv P (cf (trimS q) ((trimS q).length - 1)))))) := fun m r a' => rfl
  have HEND : Hid (∀ r a', divGo P (trimS q) (inv P (cf (trimS q) ((trimS q).length - 1))) 0 r a' = (r, a')) := fun r a' => rfl
  have HL2 : Hid ((divS P (trimS p) (trimS q)).2.length = (trimS p).length - (trimS q).length + 1) := (divS_len P _ _).2
  have HL1 : Hid ((divS P (trimS p) (trimS q)).1.length = (trimS p).length) := (divS_len P _ _).1
  have HTR := hidD (fun (l : List UInt8) (hl : l.length ≤ 65536) w' v (h : SlAt w' v l) => refTrim_own l hl v w' h)
  generalize hF : divS P (trimS p) (trimS q) = F at *
  have HFD := hidD hf
  clear hp hq hpl hql0 hq0 hp0 hF hf
  have HQL : Hid (((cf (trimS q) ((trimS q).length - 1)).toNat : Int) = ((cf (trimS q) ((trimS q).length - 1)).toNat : Int)) := rfl
  generalize hiv : inv P (cf (trimS q) ((trimS q).length - 1)) = iv at *
  clear hiv HQL
  generalize hq' : trimS q = q' at *
  generalize hT : trimS p = T at *
  generalize htl : T.length = tp at *
  generalize htq : q'.length = tq at *
  have HTL := hidD htl
  have HTLQ := hidD htq
  clear hT htl hq' htq
  generalize hm0 : tp - tq + 1 = m0 at *
  have hm0i : (tp : Int) - tq + 1 = (m0 : Int) := by omega
  have hlti : ¬ (tp : Int) < tq := by omega
  have hq0 : ¬ (tq : Int) = 0 := by omega
  have hqb : ((tq : Int) == 0) = false := by simpa using hq0
  have HM0 := hidD hm0
  have HTQ0 := hidD hql
  have hm0l : m0 ≤ 65536 := by omega
  have HTQ1 : Hid (tq - 1 + 1 = tq) := by show _ = _; omega
  generalize tq - 1 = t1 at *
  clear hm0 hql hge hlast
  obtain ⟨i0, hi, hz0, hz1, hz2⟩ := info_parts Try.info5
  go_enter Try.func38, Try.ntmps38
  go_wp2_with (first
    | (go_at_call 46; refine HT.out.mono ?_; rintro e w1 ⟨gq, cq, rfl, hge1, hcq1, hcq2, hx1, hb1⟩; have HX1 := hidD hx1; have HB1 := hidD hb1; have HE1 := hidD hge1; clear hx1 hb1 hge1 hcq1 hcq2 HT)
    | (go_at_call 46; refine (HTP.out _ HB1.out).mono ?_; rintro e w2 ⟨gr, cr, rfl, hge2, hcr1, hcr2, hx2, hb2⟩; have HX2 := hidD hx2; have HB2 := hidD (Below.next HB1.out hb2); have HX12 := hidD (HX1.out.next hb2); have HE2 := hidD (Nat.le_trans HB1.out.size hge2); have HQR := hidD (Nat.lt_of_lt_of_le HX1.out.lt hge2); have hcr := hcr1; have hcrm := hcr2; clear hx2 hb2 hge2 hcr1 hcr2 HTP)
    | (at_make; refine wpList_make_full _ rfl _ _ 22 rfl w2.heap.size 5 i0 (.int .u8 0) 1 Try.underlying22 hi hz0 hz1 _ _ _ _ m0 rfl rfl (by omega) (by omega) (by rw [hz2]; omega) (by unfold maxLen; omega) (Nat.le_refl _) ?_; intro w3 hown3 hg3; have HR3 := hidD (row_of_made hown3); have hb3 : Below w2.heap.size w2 w3 := ((Below.refl w2.heap.size w2).grown hg3 (Nat.le_refl _) (fun k hk => by cases hk)); have HB3 := hidD (Below.next HB2.out hb3); have HX3 := hidD (HX2.out.next hb3); have HX13 := hidD (HX12.out.next hb3); have HRA := hidD HX2.out.lt; have HE3 := hidD HB2.out.size; clear hown3 hg3 hb3))
  clear hm0i hlti
  obtain ⟨ga, hga⟩ : ∃ ga, ga = w2.heap.size := ⟨_, rfl⟩
  rw [← hga] at HR3 HRA HE3
  rw [← hga]
  clear hga
  have HNQR : Hid (gq ≠ gr) := Nat.ne_of_lt HQR.out
  have HNRA : Hid (gr ≠ ga) := Nat.ne_of_lt HRA.out
  have HNQA : Hid (gq ≠ ga) := Nat.ne_of_lt (Nat.lt_trans HQR.out HRA.out)
  go_loopw [11, 14] (fun i z wr => ∃ k : Nat, k ≤ m0 ∧ i = .int .i64 ((k : Int) - 1) ∧ (∃ R A : List UInt8, R.length = tp ∧ A.length = m0 ∧ RowX wr gr R ∧ RowAt wr ga A ∧ divGo P q' iv k R A = F) ∧ RowX wr gq q' ∧ Below w.heap.size w wr) (fun i _ _ => (intOf i + 1).toNat)
  case atStart => exact ⟨m0, Nat.le_refl _, rfl, ⟨T, List.replicate m0 0, HTL.out, List.length_replicate, HX3.out, HR3.out, HDV.out⟩, HX13.out, HB3.out⟩
  case round =>
    obtain ⟨k, hk, rfl, ⟨R, A, hRl, hAl, hrr, hra, hdv⟩, hrq, hbel⟩ := hrel
    obtain ⟨wo, hwo⟩ : ∃ wo, wo = wr := ⟨_, rfl⟩
    subst hwo
    by_cases hk0 : k = 0
    · subst hk0
      rw [HEND.out] at hdv
      have HF1 : Hid (F.1 = R) := by show _ = _; rw [← hdv]
      have HF2 : Hid (F.2 = A) := by show _ = _; rw [← hdv]
      have HT2 := hidD (HTR.out A (by omega) wo (.slice (some ⟨ga, 0, none⟩) m0 m0) (SlAt.row hra hAl.symm (by omega)))
      have HT1 := hidD (fun w' (h : Below wo.heap.size wo w') => HTR.out R (by omega) w' (.slice (some ⟨gr, 0, none⟩) tp cr) ((hrr.next h).sl hRl.symm hcr hcrm))
      have HBL := hidD hbel
      clear hrr hra hrq hdv hRl hAl hbel
      go_wp2_with (first
        | (go_at_call 46; refine HT2.out.mono ?_; rintro e w7 ⟨v7, rfl, hs7, hb7⟩; have HB7 := hidD hb7; clear hs7 hb7 HT2)
        | (go_at_call 46; refine (HT1.out _ HB7.out).mono ?_; rintro e w8 ⟨v8, rfl, hs8, hb8⟩; have HS8 := hidD hs8; have HZ8 := hidD hb8.size; have HB8 := hidD (Below.next (Below.next HBL.out HB7.out) hb8); clear hs8 hb8 HT1))
      refine bodyPost_ret (v := .tuple #[v7, v8, .int .i64 0]) (by simp [results, Try.results38, go_sem]) rfl ?_
      exact ⟨_, _, _, rfl, (Below.next HBL.out HB7.out).size, HZ8.out, by rw [HF1.out]; exact HS8.out, HB8.out⟩
    · obtain ⟨j, rfl⟩ : ∃ j, k = j + 1 := ⟨k - 1, by omega⟩
      have hji : ((j + 1 : Nat) : Int) - 1 = (j : Int) := by omega
      rw [hji]
      clear hji
      have hj0 : (0 : Int) ≤ j := by omega
      have hjm : (j : Int) < m0 := by omega
      have hjt : j + t1 < tp := by have := HM0.out; have := HTQ1.out; omega
      have hjti : (j : Int) + tq - 1 = ((j + t1 : Nat) : Int) := by have := HTQ1.out; omega
      have hjtl : ((j + t1 : Nat) : Int) < tp := by omega
      have ht1i : (tq : Int) - 1 = (t1 : Int) := by have := HTQ1.out; omega
      have ht1l : (t1 : Int) < tq := by have := HTQ1.out; omega
      have hcr1 : ∀ i : BW wo, i.v.cell? ⟨gr, j + t1, none⟩ = some (.int .u8 ((cf R (j + t1)).toNat : Int)) := fun i => (hrr.next i.below).cell (by rw [hRl]; exact hjt)
      have hcq1 : ∀ i : BW wo, i.v.cell? ⟨gq, t1, none⟩ = some (.int .u8 ((cf q' t1).toNat : Int)) := fun i => (hrq.next i.below).cell (by have := HTLQ.out; have := HTQ1.out; omega)
      have HD := hidD (fun i : BW wo => HDIV.out (cf R (j + t1)) i.v ((HFD.out.next hbel).next i.below))
      rw [HSTP.out, show j + tq - 1 = j + t1 by have := HTQ1.out; omega] at hdv
      have HDVN := hidD hdv
      have HRR := hidD hrr
      have HRA' := hidD hra
      have HRQ := hidD hrq
      have HBL := hidD hbel
      have HRL := hidD hRl
      have HALn := hidD hAl
      have HJM : Hid (j < m0) := by show _ < _; omega
      have HJT : Hid (j + tq ≤ tp) := by show _ ≤ _; have := HTQ1.out; omega
      generalize bm P (cf R (j + t1)) iv = c at *
      generalize (cf R (j + t1)).toNat = rv at *
      generalize (cf q' t1).toNat = qv at *
      clear hrr hra hrq hdv hbel hRl hAl
      generalize j + t1 = jt at *
      go_wp2_with fail
      refine wp_region_below (by kernel_rfl) (by kernel_rfl) ?_
      repeat (go_big_quiet_step ((go_at_call 57; exact Calls.below_of (HD.out _))))
      refine wpQuiet_nil ?_
      intro i
      have hra6 := HRA'.out.next i.below
      obtain ⟨cv, hcv⟩ : ∃ v, i.v.cell? ⟨ga, j, none⟩ = some v := ⟨_, hra6.cell (by rw [HALn.out]; exact HJM.out)⟩
      have hfz := hra6.frozen j
      have HA7 := hidD (hra6.set j c)
      have HR7 := hidD ((HRR.out.next i.below).put HNRA.out j (.int .u8 (c.toNat : Int)))
      have HQ7 := hidD ((HRQ.out.next i.below).put HNQA.out j (.int .u8 (c.toNat : Int)))
      have HB7 := hidD ((Below.next HBL.out i.below).setCell (p := ⟨ga, j, none⟩) HE3.out (.int .u8 (c.toNat : Int)))
      clear hra6 hcr1 hcq1
      generalize i.v = w6 at *
      go_wp2_with fail
      generalize w6.setCell ⟨ga, j, none⟩ (.int .u8 (c.toNat : Int)) = w7 at *
      have HRI : Hid (RowX w7 gr (addL P R j (q'.take 0) c)) := by rw [List.take_zero, HA0.out]; exact HR7.out
      have HSTk := hidD (fun m hm => HST.out R j c m hm (by rw [HRL.out]; exact HJT.out))
      have HLk := hidD (fun m => HAL.out R j c m)
      have HLA : Hid ((A.set j c).length = m0) := by show _ = _; rw [List.length_set]; exact HALn.out
      clear hcv hfz
      go_loopw [14] (fun z wr => ∃ m : Nat, m ≤ tq ∧ z = .int .i64 m ∧ RowX wr gr (addL P R j (q'.take m) c) ∧ RowAt wr ga (A.set j c) ∧ RowX wr gq q' ∧ Below w.heap.size w wr) (fun z _ => tq - (intOf z).toNat)
      case atStart => exact ⟨0, Nat.zero_le _, rfl, HRI.out, HA7.out, HQ7.out, HB7.out⟩
      case round =>
        obtain ⟨m, hm, rfl, hrow, hrowa, hrowq, hbel⟩ := hrel
        have HBL2 := hidD hbel
        have HRW := hidD hrow
        have HRWA := hidD hrowa
        have HRWQ := hidD hrowq
        by_cases hmt : m < tq
        · have hmti : (m : Int) < tq := by omega
          have hcq' : wr.cell? ⟨gq, m, none⟩ = some (.int .u8 ((cf q' m).toNat : Int)) := hrowq.cell (by have := HTLQ.out; omega)
          have hcqn : ∀ n, (wr.drewN n).cell? ⟨gq, m, none⟩ = some (.int .u8 ((cf q' m).toNat : Int)) := fun n => hcq'
          have hjmt : j + m < tp := by have := HJT.out; omega
          have hcr0 : wr.cell? ⟨gr, j + m, none⟩ = some (.int .u8 ((cf (addL P R j (q'.take m) c) (j + m)).toNat : Int)) := hrow.cell (by rw [HLk.out, HRL.out]; exact hjmt)
          have hcrn : ∀ n, (wr.drewN n).cell? ⟨gr, j + m, none⟩ = some (.int .u8 ((cf (addL P R j (q'.take m) c) (j + m)).toNat : Int)) := fun n => hcr0
          have hkml : ((j + m : Nat) : Int) < tp := by omega
          have hkw1 : IntKind.i64.wrap ((j : Int) + m) = ((j + m : Nat) : Int) := by rw [IntKind.wrap_i64]; omega
          have hkw2 : wrap64 ((j : Int) + m) = ((j + m : Nat) : Int) := by unfold wrap64; omega
          have HM := hidD (fun w' (hb : Below wr.heap.size wr w') => HMUL.out c (cf q' m) w' (HFD.out.next (Below.next hbel hb)))
          have hx := u8_xor_nat (cf (addL P R j (q'.take m) c) (j + m)).toNat (bm P c (cf q' m)).toNat (u8_lt _) (u8_lt _)
          rw [← UInt8.toNat_xor] at hx
          have HS := hidD (HSTk.out m (by have := HTLQ.out; omega))
          have HLS : Hid (j + m < (addL P R j (q'.take m) c).length) := by show _ < _; rw [HLk.out, HRL.out]; exact hjmt
          generalize hv : cf (addL P R j (q'.take m) c) (j + m) ^^^ bm P c (cf q' m) = v at *
          generalize (cf (addL P R j (q'.take m) c) (j + m)).toNat = x at *
          generalize (bm P c (cf q' m)).toNat = y at *
          generalize (cf q' m).toNat = dq at *
          generalize j + m = jm at *
          clear hv hbel hrow hrowa hrowq hjmt
          go_wp2_with fail
          go_region_with (go_at_call 58; refine (HM.out _ ((Below.refl wr.heap.size wr).drew)).mono ?_; rintro e w4 ⟨rfl, hb4⟩; have hb5 : Below wr.heap.size wr w4 := ((Below.refl wr.heap.size wr).drew).trans hb4; have HR4 := hidD (HRW.out.next hb5); have HQ4 := hidD (HRWQ.out.next hb5); have HA4 := hidD (HRWA.out.next hb5); have HB4 := hidD hb5; have j8 : w4.cell? ⟨gr, jm, none⟩ = some (.int .u8 (x : Int)) := (hb5.cell (p := ⟨gr, jm, none⟩) HRW.out.lt).trans hcr0; have f8 := HR4.out.frozen jm; clear hb4 hb5)
          all_goals
            go_wp2
            go_roundw
            case rel => exact ⟨m + 1, by omega, by go_num, by rw [← HS.out]; exact HR4.out.set HLS.out _, HA4.out.putx (fun h => HNRA.out h.symm) _ _, HQ4.out.put HNQR.out _ _, (Below.next HBL2.out HB4.out).setCell (p := ⟨gr, jm, none⟩) HE2.out _⟩
            case measure => simp [intOf]; omega
        · obtain rfl : m = tq := by omega
          have HRN : Hid (RowX wr gr (addL P R j q' c)) := by
            have := hrow
            rw [HQT.out] at this; exact this
          have HLR : Hid ((addL P R j q' c).length = tp) := by
            show _ = _
            have := HLk.out m
            rw [HQT.out] at this
            rw [this]; exact HRL.out
          clear hrow hrowa hrowq hbel
          go_wp2_with fail
          go_roundw
          case rel => exact ⟨j, Nat.le_of_lt HJM.out, by congr 1, ⟨_, _, HLR.out, HLA.out, HRN.out, HRWA.out, HDVN.out⟩, HRWQ.out, HBL2.out⟩
          case measure => simp [intOf]
end Go.Proofs.Ytdpkeffkpecmjaa
