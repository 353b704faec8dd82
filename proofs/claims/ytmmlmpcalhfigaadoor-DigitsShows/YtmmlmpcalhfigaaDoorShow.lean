/- What Show of the document answers. -/
import Derived.Test.YtmmlmpcalhfigaaDoorShowS
import Derived.Test.YtmmlmpcalhfigaaDoorSigP
import Derived.BigQuiet
namespace Go.Proofs.YtmmlmpcalhfigaaDoor
open Go.RowKit
set_option linter.unusedVariables false

def szOf (v : Value) : Nat := match v with | .string b => b.size | _ => 0
theorem ba_append (x y : List UInt8) : ({ data := x.toArray } : ByteArray) ++ { data := y.toArray } = ⟨(x ++ y).toArray⟩ := by
  apply ByteArray.ext
  rw [ByteArray.data_append]
  simp
theorem hex_cut (d : Nat) (hd : d < 16) (acc : List UInt8) : ({ data := #[48, 49, 50, 51, 52, 53, 54, 55, 56, 57, 65, 66, 67, 68, 69, 70] } : ByteArray).extract d (d + 1) ++ { data := acc.toArray } = ⟨(hexC d :: acc).toArray⟩ := by
  have h1 : ({ data := #[48, 49, 50, 51, 52, 53, 54, 55, 56, 57, 65, 66, 67, 68, 69, 70] } : ByteArray).extract d (d + 1) = ⟨[hexC d].toArray⟩ := by
    apply ByteArray.ext
    rw [ByteArray.data_extract]
    apply Array.toList_inj.1
    simp only [Array.toList_extract, List.extract_eq_take_drop]
    rw [show d + 1 - d = 1 by omega]
    exact hexC_at d hd
  rw [h1, ba_append]
  rfl
theorem int_u64 {a b : Int} (h : a = b) : Value.int .u64 a = .int .u64 b := by rw [h]
theorem str_eq {a b : ByteArray} (h : a = b) : Value.string a = .string b := by rw [h]
theorem dig_next {K v V : Nat} {acc : List UInt8} (hl : acc.length ≤ 64) (h : digS K 65 v [] = digS K (65 - acc.length) V acc) (hp : 0 < V ∨ acc = []) : digS K 65 v [] = digS K (65 - (hexC (V % K) :: acc).length) (V / K) (hexC (V % K) :: acc) := by
  rw [h]
  obtain ⟨f, hf⟩ : ∃ f, 65 - acc.length = f + 1 := ⟨64 - acc.length, by omega⟩
  have h2 : 65 - (hexC (V % K) :: acc).length = f := by simp only [List.length_cons]; omega
  rw [hf, h2, digS_step hp]
theorem rep_next {j W : Nat} {D : List UInt8} : ({ data := #[48] } : ByteArray) ++ { data := (List.replicate j (48 : UInt8) ++ D).toArray } = ⟨(List.replicate (j + 1) (48 : UInt8) ++ D).toArray⟩ := by
  have := ba_append [48] (List.replicate j (48 : UInt8) ++ D)
  rw [show ({ data := #[48] } : ByteArray) = { data := [48].toArray } from rfl, this]
  rfl
theorem ret_show {a b : ByteArray} {x : Int} (h : a = b) : Ending.returned (.tuple #[.string a, .int .i64 x]) = .returned (.tuple #[.string b, .int .i64 x]) := by rw [h]

set_option maxRecDepth 100000 in
set_option maxHeartbeats 400000 in
theorem refShow_16 (v W : Nat) (hv : v ≤ 18446744073709551615) (hW : W ≤ 64) (w : World) : Calls Tryd.prog 6 #[.int .u64 v, .int .i64 16, .int .i64 W] w fun e w' => e = .returned (.tuple #[.string ⟨([36] ++ padS W (digS 16 65 v [])).toArray⟩, .int .i64 0]) ∧ ∃ n, w' = w.drewN n := by
  have hWi : (W : Int) ≤ 64 := by omega
  generalize hDD : digS 16 65 v [] = DD
  have HDD := hidD hDD
  clear hDD
  go_enter Tryd.func6, Tryd.ntmps6
  go_wp2_with fail
  go_loopw [0, 10] (fun vv ss wr => ∃ (V : Nat) (acc : List UInt8), vv = .int .u64 V ∧ ss = .string ⟨acc.toArray⟩ ∧ V * 2 ^ acc.length ≤ 18446744073709551615 ∧ V ≤ 18446744073709551615 ∧ acc.length ≤ 64 ∧ digS 16 65 v [] = digS 16 (65 - acc.length) V acc ∧ ∃ n, wr = w.drewN n) (fun vv ss _ => 2 * (intOf vv).toNat + (1 - szOf ss))
  case atStart => exact ⟨v, [], rfl, rfl, by simpa using hv, hv, by simp, rfl, 0, rfl⟩
  case round =>
    obtain ⟨V, acc, rfl, rfl, hV, hVm, hl, hd, n, rfl⟩ := hrel
    have HV := hidD hV
    have HD := hidD hd
    clear hV hd
    have hmlt : V % 16 < 16 := by omega
    have hsz : ∀ x : List UInt8, szOf (.string ⟨x.toArray⟩) = x.length := fun x => ba_size x
    by_cases hp : 0 < V
    · have hpi : (0 : Int) < V := by omega
      have HN := hidD (dig_next hl HD.out (.inl hp))
      have HL := hidD (dig_len hp HV.out)
      go_wp2_with fail
      go_quiet (fail)
      go_wp2_with fail
      refine ⟨⟨V / 16, hexC (V % 16) :: acc, int_u64 (by omega), str_eq (hex_cut _ hmlt _), dig_room (by decide) HV.out, by omega, by have := HL.out; simp only [List.length_cons]; omega, HN.out, _, rfl⟩, ?_⟩
      rw [hex_cut _ hmlt, hsz, hsz]
      simp only [intOf, List.length_cons]
      omega
    · obtain rfl : V = 0 := by omega
      cases acc with
      | nil =>
        have HN := hidD (dig_next hl HD.out (.inr rfl))
        go_wp2_with fail
        go_quiet (fail)
        go_wp2_with fail
        refine ⟨⟨0, [hexC 0], rfl, rfl, by decide, by decide, by decide, HN.out, _, rfl⟩, ?_⟩
        decide
      | cons c acc =>
        have hne : ((c :: acc) == []) = false := rfl
        have HE : Hid (c :: acc = DD) := by
          show c :: acc = DD
          rw [← HDD.out, HD.out, digS_stop (by simp)]
        generalize c :: acc = D at *
        have hDD := HE.out
        subst hDD
        clear HV HD HE HDD
        go_wp2_with fail
        go_loopw [10] (fun ss wq => ∃ j : Nat, j ≤ W - D.length ∧ ss = .string ⟨(List.replicate j (48 : UInt8) ++ D).toArray⟩ ∧ wq = w.drewN n) (fun ss _ => W - szOf ss)
        case atStart => exact ⟨0, Nat.zero_le _, rfl, rfl⟩
        case round =>
          obtain ⟨j, hj, rfl, rfl⟩ := hrel
          have hrl : ((List.replicate j (48 : UInt8) ++ D).length : Nat) = j + D.length := by simp
          have HJ := hidD (rep_next (j := j) (W := W) (D := D))
          by_cases hlt : j + D.length < W
          · have hli : ((List.replicate j (48 : UInt8) ++ D).length : Int) < W := by rw [hrl]; omega
            have HS := hidD (show szOf (.string ⟨(List.replicate j (48 : UInt8) ++ D).toArray⟩) = j + D.length from (ba_size _).trans hrl)
            have HS1 := hidD (show szOf (.string ⟨(List.replicate (j + 1) (48 : UInt8) ++ D).toArray⟩) = j + 1 + D.length from (ba_size _).trans (by simp))
            clear hrl
            generalize List.replicate j (48 : UInt8) ++ D = X at *
            go_wp2_with fail
            refine ⟨⟨j + 1, by omega, str_eq HJ.out, by trivial⟩, ?_⟩
            rw [HJ.out, HS1.out, HS.out]
            omega
          · have hli : ¬ ((List.replicate j (48 : UInt8) ++ D).length : Int) < W := by rw [hrl]; omega
            have HP : Hid (List.replicate j (48 : UInt8) ++ D = padS W D) := by
              show _ = padS W D
              rw [padS, show W - D.length = j by omega]
            have hXb : (List.replicate j (48 : UInt8) ++ D).length ≤ 200 := by rw [hrl]; omega
            clear hrl HJ
            generalize List.replicate j (48 : UInt8) ++ D = X at *
            go_wp2_with fail
            go_ret2
            refine ⟨ret_show ?_, n, rfl⟩
            rw [← HP.out]
            exact ba_append [36] X

set_option maxRecDepth 100000 in
set_option maxHeartbeats 400000 in
theorem refShow_2 (v W : Nat) (hv : v ≤ 18446744073709551615) (hW : W ≤ 64) (w : World) : Calls Tryd.prog 6 #[.int .u64 v, .int .i64 2, .int .i64 W] w fun e w' => e = .returned (.tuple #[.string ⟨([37] ++ padS W (digS 2 65 v [])).toArray⟩, .int .i64 0]) ∧ ∃ n, w' = w.drewN n := by
  have hWi : (W : Int) ≤ 64 := by omega
  generalize hDD : digS 2 65 v [] = DD
  have HDD := hidD hDD
  clear hDD
  go_enter Tryd.func6, Tryd.ntmps6
  go_wp2_with fail
  go_loopw [0, 10] (fun vv ss wr => ∃ (V : Nat) (acc : List UInt8), vv = .int .u64 V ∧ ss = .string ⟨acc.toArray⟩ ∧ V * 2 ^ acc.length ≤ 18446744073709551615 ∧ V ≤ 18446744073709551615 ∧ acc.length ≤ 64 ∧ digS 2 65 v [] = digS 2 (65 - acc.length) V acc ∧ ∃ n, wr = w.drewN n) (fun vv ss _ => 2 * (intOf vv).toNat + (1 - szOf ss))
  case atStart => exact ⟨v, [], rfl, rfl, by simpa using hv, hv, by simp, rfl, 0, rfl⟩
  case round =>
    obtain ⟨V, acc, rfl, rfl, hV, hVm, hl, hd, n, rfl⟩ := hrel
    have HV := hidD hV
    have HD := hidD hd
    clear hV hd
    have hmlt : V % 2 < 16 := by omega
    have hsz : ∀ x : List UInt8, szOf (.string ⟨x.toArray⟩) = x.length := fun x => ba_size x
    by_cases hp : 0 < V
    · have hpi : (0 : Int) < V := by omega
      have HN := hidD (dig_next hl HD.out (.inl hp))
      have HL := hidD (dig_len hp HV.out)
      go_wp2_with fail
      go_quiet (fail)
      go_wp2_with fail
      refine ⟨⟨V / 2, hexC (V % 2) :: acc, int_u64 (by omega), str_eq (hex_cut _ hmlt _), dig_room (by decide) HV.out, by omega, by have := HL.out; simp only [List.length_cons]; omega, HN.out, _, rfl⟩, ?_⟩
      rw [hex_cut _ hmlt, hsz, hsz]
      simp only [intOf, List.length_cons]
      omega
    · obtain rfl : V = 0 := by omega
      cases acc with
      | nil =>
        have HN := hidD (dig_next hl HD.out (.inr rfl))
        go_wp2_with fail
        go_quiet (fail)
        go_wp2_with fail
        refine ⟨⟨0, [hexC 0], rfl, rfl, by decide, by decide, by decide, HN.out, _, rfl⟩, ?_⟩
        decide
      | cons c acc =>
        have hne : ((c :: acc) == []) = false := rfl
        have HE : Hid (c :: acc = DD) := by
          show c :: acc = DD
          rw [← HDD.out, HD.out, digS_stop (by simp)]
        generalize c :: acc = D at *
        have hDD := HE.out
        subst hDD
        clear HV HD HE HDD
        go_wp2_with fail
        go_loopw [10] (fun ss wq => ∃ j : Nat, j ≤ W - D.length ∧ ss = .string ⟨(List.replicate j (48 : UInt8) ++ D).toArray⟩ ∧ wq = w.drewN n) (fun ss _ => W - szOf ss)
        case atStart => exact ⟨0, Nat.zero_le _, rfl, rfl⟩
        case round =>
          obtain ⟨j, hj, rfl, rfl⟩ := hrel
          have hrl : ((List.replicate j (48 : UInt8) ++ D).length : Nat) = j + D.length := by simp
          have HJ := hidD (rep_next (j := j) (W := W) (D := D))
          by_cases hlt : j + D.length < W
          · have hli : ((List.replicate j (48 : UInt8) ++ D).length : Int) < W := by rw [hrl]; omega
            have HS := hidD (show szOf (.string ⟨(List.replicate j (48 : UInt8) ++ D).toArray⟩) = j + D.length from (ba_size _).trans hrl)
            have HS1 := hidD (show szOf (.string ⟨(List.replicate (j + 1) (48 : UInt8) ++ D).toArray⟩) = j + 1 + D.length from (ba_size _).trans (by simp))
            clear hrl
            generalize List.replicate j (48 : UInt8) ++ D = X at *
            go_wp2_with fail
            refine ⟨⟨j + 1, by omega, str_eq HJ.out, by trivial⟩, ?_⟩
            rw [HJ.out, HS1.out, HS.out]
            omega
          · have hli : ¬ ((List.replicate j (48 : UInt8) ++ D).length : Int) < W := by rw [hrl]; omega
            have HP : Hid (List.replicate j (48 : UInt8) ++ D = padS W D) := by
              show _ = padS W D
              rw [padS, show W - D.length = j by omega]
            have hXb : (List.replicate j (48 : UInt8) ++ D).length ≤ 200 := by rw [hrl]; omega
            clear hrl HJ
            generalize List.replicate j (48 : UInt8) ++ D = X at *
            go_wp2_with fail
            go_ret2
            refine ⟨ret_show ?_, n, rfl⟩
            rw [← HP.out]
            exact ba_append [37] X

set_option maxRecDepth 100000 in
set_option maxHeartbeats 400000 in
theorem refShow_8 (v W : Nat) (hv : v ≤ 18446744073709551615) (hW : W ≤ 64) (w : World) : Calls Tryd.prog 6 #[.int .u64 v, .int .i64 8, .int .i64 W] w fun e w' => e = .returned (.tuple #[.string ⟨([64] ++ padS W (digS 8 65 v [])).toArray⟩, .int .i64 0]) ∧ ∃ n, w' = w.drewN n := by
  have hWi : (W : Int) ≤ 64 := by omega
  generalize hDD : digS 8 65 v [] = DD
  have HDD := hidD hDD
  clear hDD
  go_enter Tryd.func6, Tryd.ntmps6
  go_wp2_with fail
  go_loopw [0, 10] (fun vv ss wr => ∃ (V : Nat) (acc : List UInt8), vv = .int .u64 V ∧ ss = .string ⟨acc.toArray⟩ ∧ V * 2 ^ acc.length ≤ 18446744073709551615 ∧ V ≤ 18446744073709551615 ∧ acc.length ≤ 64 ∧ digS 8 65 v [] = digS 8 (65 - acc.length) V acc ∧ ∃ n, wr = w.drewN n) (fun vv ss _ => 2 * (intOf vv).toNat + (1 - szOf ss))
  case atStart => exact ⟨v, [], rfl, rfl, by simpa using hv, hv, by simp, rfl, 0, rfl⟩
  case round =>
    obtain ⟨V, acc, rfl, rfl, hV, hVm, hl, hd, n, rfl⟩ := hrel
    have HV := hidD hV
    have HD := hidD hd
    clear hV hd
    have hmlt : V % 8 < 16 := by omega
    have hsz : ∀ x : List UInt8, szOf (.string ⟨x.toArray⟩) = x.length := fun x => ba_size x
    by_cases hp : 0 < V
    · have hpi : (0 : Int) < V := by omega
      have HN := hidD (dig_next hl HD.out (.inl hp))
      have HL := hidD (dig_len hp HV.out)
      go_wp2_with fail
      go_quiet (fail)
      go_wp2_with fail
      refine ⟨⟨V / 8, hexC (V % 8) :: acc, int_u64 (by omega), str_eq (hex_cut _ hmlt _), dig_room (by decide) HV.out, by omega, by have := HL.out; simp only [List.length_cons]; omega, HN.out, _, rfl⟩, ?_⟩
      rw [hex_cut _ hmlt, hsz, hsz]
      simp only [intOf, List.length_cons]
      omega
    · obtain rfl : V = 0 := by omega
      cases acc with
      | nil =>
        have HN := hidD (dig_next hl HD.out (.inr rfl))
        go_wp2_with fail
        go_quiet (fail)
        go_wp2_with fail
        refine ⟨⟨0, [hexC 0], rfl, rfl, by decide, by decide, by decide, HN.out, _, rfl⟩, ?_⟩
        decide
      | cons c acc =>
        have hne : ((c :: acc) == []) = false := rfl
        have HE : Hid (c :: acc = DD) := by
          show c :: acc = DD
          rw [← HDD.out, HD.out, digS_stop (by simp)]
        generalize c :: acc = D at *
        have hDD := HE.out
        subst hDD
        clear HV HD HE HDD
        go_wp2_with fail
        go_loopw [10] (fun ss wq => ∃ j : Nat, j ≤ W - D.length ∧ ss = .string ⟨(List.replicate j (48 : UInt8) ++ D).toArray⟩ ∧ wq = w.drewN n) (fun ss _ => W - szOf ss)
        case atStart => exact ⟨0, Nat.zero_le _, rfl, rfl⟩
        case round =>
          obtain ⟨j, hj, rfl, rfl⟩ := hrel
          have hrl : ((List.replicate j (48 : UInt8) ++ D).length : Nat) = j + D.length := by simp
          have HJ := hidD (rep_next (j := j) (W := W) (D := D))
          by_cases hlt : j + D.length < W
          · have hli : ((List.replicate j (48 : UInt8) ++ D).length : Int) < W := by rw [hrl]; omega
            have HS := hidD (show szOf (.string ⟨(List.replicate j (48 : UInt8) ++ D).toArray⟩) = j + D.length from (ba_size _).trans hrl)
            have HS1 := hidD (show szOf (.string ⟨(List.replicate (j + 1) (48 : UInt8) ++ D).toArray⟩) = j + 1 + D.length from (ba_size _).trans (by simp))
            clear hrl
            generalize List.replicate j (48 : UInt8) ++ D = X at *
            go_wp2_with fail
            refine ⟨⟨j + 1, by omega, str_eq HJ.out, by trivial⟩, ?_⟩
            rw [HJ.out, HS1.out, HS.out]
            omega
          · have hli : ¬ ((List.replicate j (48 : UInt8) ++ D).length : Int) < W := by rw [hrl]; omega
            have HP : Hid (List.replicate j (48 : UInt8) ++ D = padS W D) := by
              show _ = padS W D
              rw [padS, show W - D.length = j by omega]
            have hXb : (List.replicate j (48 : UInt8) ++ D).length ≤ 200 := by rw [hrl]; omega
            clear hrl HJ
            generalize List.replicate j (48 : UInt8) ++ D = X at *
            go_wp2_with fail
            go_ret2
            refine ⟨ret_show ?_, n, rfl⟩
            rw [← HP.out]
            exact ba_append [64] X

set_option maxRecDepth 100000 in
set_option maxHeartbeats 400000 in
theorem refShow_10 (v W : Nat) (hv : v ≤ 18446744073709551615) (hW : W ≤ 64) (w : World) : Calls Tryd.prog 6 #[.int .u64 v, .int .i64 10, .int .i64 W] w fun e w' => e = .returned (.tuple #[.string ⟨([] ++ padS W (digS 10 65 v [])).toArray⟩, .int .i64 0]) ∧ ∃ n, w' = w.drewN n := by
  have hWi : (W : Int) ≤ 64 := by omega
  generalize hDD : digS 10 65 v [] = DD
  have HDD := hidD hDD
  clear hDD
  go_enter Tryd.func6, Tryd.ntmps6
  go_wp2_with fail
  go_loopw [0, 10] (fun vv ss wr => ∃ (V : Nat) (acc : List UInt8), vv = .int .u64 V ∧ ss = .string ⟨acc.toArray⟩ ∧ V * 2 ^ acc.length ≤ 18446744073709551615 ∧ V ≤ 18446744073709551615 ∧ acc.length ≤ 64 ∧ digS 10 65 v [] = digS 10 (65 - acc.length) V acc ∧ ∃ n, wr = w.drewN n) (fun vv ss _ => 2 * (intOf vv).toNat + (1 - szOf ss))
  case atStart => exact ⟨v, [], rfl, rfl, by simpa using hv, hv, by simp, rfl, 0, rfl⟩
  case round =>
    obtain ⟨V, acc, rfl, rfl, hV, hVm, hl, hd, n, rfl⟩ := hrel
    have HV := hidD hV
    have HD := hidD hd
    clear hV hd
    have hmlt : V % 10 < 16 := by omega
    have hsz : ∀ x : List UInt8, szOf (.string ⟨x.toArray⟩) = x.length := fun x => ba_size x
    by_cases hp : 0 < V
    · have hpi : (0 : Int) < V := by omega
      have HN := hidD (dig_next hl HD.out (.inl hp))
      have HL := hidD (dig_len hp HV.out)
      go_wp2_with fail
      go_quiet (fail)
      go_wp2_with fail
      refine ⟨⟨V / 10, hexC (V % 10) :: acc, int_u64 (by omega), str_eq (hex_cut _ hmlt _), dig_room (by decide) HV.out, by omega, by have := HL.out; simp only [List.length_cons]; omega, HN.out, _, rfl⟩, ?_⟩
      rw [hex_cut _ hmlt, hsz, hsz]
      simp only [intOf, List.length_cons]
      omega
    · obtain rfl : V = 0 := by omega
      cases acc with
      | nil =>
        have HN := hidD (dig_next hl HD.out (.inr rfl))
        go_wp2_with fail
        go_quiet (fail)
        go_wp2_with fail
        refine ⟨⟨0, [hexC 0], rfl, rfl, by decide, by decide, by decide, HN.out, _, rfl⟩, ?_⟩
        decide
      | cons c acc =>
        have hne : ((c :: acc) == []) = false := rfl
        have HE : Hid (c :: acc = DD) := by
          show c :: acc = DD
          rw [← HDD.out, HD.out, digS_stop (by simp)]
        generalize c :: acc = D at *
        have hDD := HE.out
        subst hDD
        clear HV HD HE HDD
        go_wp2_with fail
        go_loopw [10] (fun ss wq => ∃ j : Nat, j ≤ W - D.length ∧ ss = .string ⟨(List.replicate j (48 : UInt8) ++ D).toArray⟩ ∧ wq = w.drewN n) (fun ss _ => W - szOf ss)
        case atStart => exact ⟨0, Nat.zero_le _, rfl, rfl⟩
        case round =>
          obtain ⟨j, hj, rfl, rfl⟩ := hrel
          have hrl : ((List.replicate j (48 : UInt8) ++ D).length : Nat) = j + D.length := by simp
          have HJ := hidD (rep_next (j := j) (W := W) (D := D))
          by_cases hlt : j + D.length < W
          · have hli : ((List.replicate j (48 : UInt8) ++ D).length : Int) < W := by rw [hrl]; omega
            have HS := hidD (show szOf (.string ⟨(List.replicate j (48 : UInt8) ++ D).toArray⟩) = j + D.length from (ba_size _).trans hrl)
            have HS1 := hidD (show szOf (.string ⟨(List.replicate (j + 1) (48 : UInt8) ++ D).toArray⟩) = j + 1 + D.length from (ba_size _).trans (by simp))
            clear hrl
            generalize List.replicate j (48 : UInt8) ++ D = X at *
            go_wp2_with fail
            refine ⟨⟨j + 1, by omega, str_eq HJ.out, by trivial⟩, ?_⟩
            rw [HJ.out, HS1.out, HS.out]
            omega
          · have hli : ¬ ((List.replicate j (48 : UInt8) ++ D).length : Int) < W := by rw [hrl]; omega
            have HP : Hid (List.replicate j (48 : UInt8) ++ D = padS W D) := by
              show _ = padS W D
              rw [padS, show W - D.length = j by omega]
            have hXb : (List.replicate j (48 : UInt8) ++ D).length ≤ 200 := by rw [hrl]; omega
            clear hrl HJ
            generalize List.replicate j (48 : UInt8) ++ D = X at *
            go_wp2_with fail
            go_ret2
            refine ⟨ret_show ?_, n, rfl⟩
            rw [← HP.out]
            exact ba_append [] X

end Go.Proofs.YtmmlmpcalhfigaaDoor
