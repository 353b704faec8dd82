/- What the small functions answer: digits, places, formats, two bytes. -/
import Derived.Test.YtpemajghaceegaaGreatDoorBas
import Derived.Test.YtpemajghaceegaaGreatDoorHxp
namespace Go.Proofs.YtpemajghaceegaaGreatDoor
open Go.RowKit
set_option linter.unusedVariables false

theorem u8_t {c : UInt8} {d : Int} (k : UInt8) (hd : (k.toNat : Int) = d) (h : c = k) : ((c.toNat : Int) == d) = true := by subst h; rw [hd]; exact beq_self_eq_true d
theorem u8_f {c : UInt8} {d : Int} (k : UInt8) (hd : (k.toNat : Int) = d) (h : ¬ c = k) : ((c.toNat : Int) == d) = false := by
  rw [beq_eq_false_iff_ne, ← hd]
  intro he
  exact h (UInt8.toNat_inj.1 (by omega))
/- a digit's worth, of a character -/
def diS (c : Int) : Option Nat := if 48 ≤ c ∧ c ≤ 57 then some (c - 48).toNat else if 65 ≤ c ∧ c ≤ 70 then some (c - 55).toNat else if 97 ≤ c ∧ c ≤ 102 then some (c - 87).toNat else none
def diV : Option Nat → Value
  | some n => .tuple #[.int .u8 (n : Int), .bool true]
  | none => .tuple #[.int .u8 0, .bool false]
set_option maxRecDepth 100000 in
theorem digitOf_any (c : Int) (h0 : 0 ≤ c) (h1 : c ≤ 2147483647) (w : World) : Calls Tryz.prog 131 #[.int .i32 c] w fun e w' => e = .returned (diV (diS c)) ∧ w' = w := by
  have fin : ∀ (o : Option Nat) (V : Value), diS c = o → diV o = V → Ending.returned V = .returned (diV (diS c)) := fun o V h1 h2 => by rw [h1, h2]
  have FIN := hidD fin
  clear fin
  by_cases a1 : 48 ≤ c
  · by_cases a2 : c ≤ 57
    · have HD : Hid (diS c = some (c - 48).toNat ∧ ((c - 48).toNat : Int) = c - 48) := ⟨if_pos ⟨a1, a2⟩, by omega⟩
      go_enter Tryz.func131, Tryz.ntmps131
      go_wp2
      go_ret2
      refine ⟨FIN.out _ _ HD.out.1 ?_, rfl⟩
      show Value.tuple #[.int .u8 ((c - 48).toNat : Int), .bool true] = _
      rw [HD.out.2]
      rfl
    · by_cases a3 : 65 ≤ c
      · by_cases a4 : c ≤ 70
        · have HD : Hid (diS c = some (c - 55).toNat ∧ ((c - 55).toNat : Int) = c - 65 + 10) := ⟨by unfold diS; rw [if_neg (by omega), if_pos ⟨a3, a4⟩], by omega⟩
          go_enter Tryz.func131, Tryz.ntmps131
          go_wp2
          go_ret2
          refine ⟨FIN.out _ _ HD.out.1 ?_, rfl⟩
          show Value.tuple #[.int .u8 ((c - 55).toNat : Int), .bool true] = _
          rw [HD.out.2]
          rfl
        · by_cases a5 : 97 ≤ c
          · by_cases a6 : c ≤ 102
            · have HD : Hid (diS c = some (c - 87).toNat ∧ ((c - 87).toNat : Int) = c - 97 + 10) := ⟨by unfold diS; rw [if_neg (by omega), if_neg (by omega), if_pos ⟨a5, a6⟩], by omega⟩
              go_enter Tryz.func131, Tryz.ntmps131
              go_wp2
              go_ret2
              refine ⟨FIN.out _ _ HD.out.1 ?_, rfl⟩
              show Value.tuple #[.int .u8 ((c - 87).toNat : Int), .bool true] = _
              rw [HD.out.2]
              rfl
            · have HD : Hid (diS c = none) := by show _ = _; unfold diS; rw [if_neg (by omega), if_neg (by omega), if_neg (by omega)]
              go_enter Tryz.func131, Tryz.ntmps131
              go_wp2
              go_ret2
              exact ⟨FIN.out _ _ HD.out rfl, rfl⟩
          · have HD : Hid (diS c = none) := by show _ = _; unfold diS; rw [if_neg (by omega), if_neg (by omega), if_neg (by omega)]
            go_enter Tryz.func131, Tryz.ntmps131
            go_wp2
            go_ret2
            exact ⟨FIN.out _ _ HD.out rfl, rfl⟩
      · have HD : Hid (diS c = none) := by show _ = _; unfold diS; rw [if_neg (by omega), if_neg (by omega), if_neg (by omega)]
        go_enter Tryz.func131, Tryz.ntmps131
        go_wp2
        go_ret2
        exact ⟨FIN.out _ _ HD.out rfl, rfl⟩
  · have HD : Hid (diS c = none) := by show _ = _; unfold diS; rw [if_neg (by omega), if_neg (by omega), if_neg (by omega)]
    go_enter Tryz.func131, Tryz.ntmps131
    go_wp2
    go_ret2
    exact ⟨FIN.out _ _ HD.out rfl, rfl⟩
def num16 : List UInt8 := [48, 49, 50, 51, 52, 53, 54, 55, 56, 57, 65, 66, 67, 68, 69, 70]
theorem num_ext : ∀ v : Nat, v < 16 → (bA num16).extract v (v + 1) = bA [dgS (UInt8.ofNat v)] := by decide +kernel
set_option maxRecDepth 100000 in
theorem oneDigit_any (v : UInt8) (hv : v.toNat < 16) (w : World) : Calls Tryz.prog 114 #[.int .u8 (v.toNat : Int)] w fun e w' => e = .returned (.string (bA [dgS v])) ∧ w' = w := by
  have HE := hidD (num_ext v.toNat hv)
  have hn1 : (v.toNat : Int) + 1 ≤ (({ data := #[48, 49, 50, 51, 52, 53, 54, 55, 56, 57, 65, 66, 67, 68, 69, 70] } : ByteArray).size : Int) := by
    show _ ≤ (16 : Int)
    omega
  have HV : Hid (UInt8.ofNat v.toNat = v) := UInt8.ofNat_toNat
  rw [HV.out] at HE
  generalize v.toNat = n at *
  go_enter Tryz.func114, Tryz.ntmps114
  go_wp2
  go_ret
  exact ⟨by rw [← HE.out]; rfl, rfl⟩
set_option maxRecDepth 100000 in
theorem isPlace_any (a : Int) (w : World) : Calls Tryz.prog 81 #[.int .i64 a] w fun e w' => e = .returned (.bool (decide (0 ≤ a ∧ a < 65536))) ∧ w' = w := by
  by_cases h0 : 0 ≤ a
  · by_cases h1 : a < 65536
    · rw [decide_eq_true ⟨h0, h1⟩]
      go_enter Tryz.func81, Tryz.ntmps81
      go_wp2
      go_ret
      exact ⟨rfl, rfl⟩
    · rw [decide_eq_false (fun h => h1 h.2)]
      go_enter Tryz.func81, Tryz.ntmps81
      go_wp2
      go_ret
      exact ⟨rfl, rfl⟩
  · rw [decide_eq_false (fun h => h0 h.1)]
    go_enter Tryz.func81, Tryz.ntmps81
    go_wp2
    go_ret
    exact ⟨rfl, rfl⟩
set_option maxRecDepth 100000 in
theorem isFormat_any (a : Int) (w : World) : Calls Tryz.prog 36 #[.int .i64 a] w fun e w' => e = .returned (.bool (decide (1 ≤ a ∧ a ≤ 3))) ∧ w' = w := by
  by_cases h0 : 1 ≤ a
  · by_cases h1 : a ≤ 3
    · rw [decide_eq_true ⟨h0, h1⟩]
      go_enter Tryz.func36, Tryz.ntmps36
      go_wp2
      go_ret
      exact ⟨rfl, rfl⟩
    · rw [decide_eq_false (fun h => h1 h.2)]
      go_enter Tryz.func36, Tryz.ntmps36
      go_wp2
      go_ret
      exact ⟨rfl, rfl⟩
  · rw [decide_eq_false (fun h => h0 h.1)]
    go_enter Tryz.func36, Tryz.ntmps36
    go_wp2
    go_ret
    exact ⟨rfl, rfl⟩
/- a line's format -/
def fmS : List UInt8 → Nat
  | [] => 0
  | c :: _ => if c = 58 then 1 else if c = 83 then 2 else if c = 59 then 3 else 0
set_option maxRecDepth 100000 in
theorem formatOf_any (l : List UInt8) (hl : l.length ≤ 140737488355328) (w : World) : Calls Tryz.prog 56 #[.string (bA l)] w fun e w' => e = .returned (.int .i64 (fmS l : Int)) ∧ w' = w := by
  have HSZ := hidD (ba_size l)
  have HBG := hidD (fun k h => ba_get l k h)
  have HBE : Hid (∀ m : List UInt8, ((bA l).toList = m) ↔ l = m) := fun m => by rw [ba_list]
  generalize (bA l) = b at *
  cases l with
  | nil =>
    have h0 : b.toList = [] := (HBE.out []).2 rfl
    go_enter Tryz.func56, Tryz.ntmps56
    go_wp2
    go_ret
    exact ⟨rfl, rfl⟩
  | cons c t =>
    have h0 : b.toList.isEmpty = false := by rw [(HBE.out (c :: t)).2 rfl]; rfl
    have hs : 0 < b.size := by rw [HSZ.out]; simp
    have HG := hidD (show b[0] = c from HBG.out 0 hs)
    have hs2 : (0 : Int) < b.size := by omega
    have fin : ∀ n : Nat, fmS (c :: t) = n → Ending.returned (.int .i64 (n : Int)) = .returned (.int .i64 (fmS (c :: t) : Int)) := fun n h => by rw [h]
    have HFM := hidD (show fmS (c :: t) = if c = 58 then 1 else if c = 83 then 2 else if c = 59 then 3 else 0 from rfl)
    have FIN := hidD fin
    clear fin hl HBG HBE
    by_cases c1 : c = 58
    · have HF : Hid (fmS (c :: t) = 1) := by show _ = _; rw [HFM.out, if_pos c1]
      have b1 := u8_t (d := 58) 58 rfl c1
      rw [← HG.out] at b1
      clear HFM
      go_enter Tryz.func56, Tryz.ntmps56
      go_wp2
      go_ret
      exact ⟨FIN.out 1 HF.out, rfl⟩
    · by_cases c2 : c = 83
      · have HF : Hid (fmS (c :: t) = 2) := by show _ = _; rw [HFM.out, if_neg c1, if_pos c2]
        have b1 := u8_f (d := 58) 58 rfl c1
        rw [← HG.out] at b1
        have b2 := u8_t (d := 83) 83 rfl c2
        rw [← HG.out] at b2
        clear HFM
        go_enter Tryz.func56, Tryz.ntmps56
        go_wp2
        go_ret
        exact ⟨FIN.out 2 HF.out, rfl⟩
      · by_cases c3 : c = 59
        · have HF : Hid (fmS (c :: t) = 3) := by show _ = _; rw [HFM.out, if_neg c1, if_neg c2, if_pos c3]
          have b1 := u8_f (d := 58) 58 rfl c1
          rw [← HG.out] at b1
          have b2 := u8_f (d := 83) 83 rfl c2
          rw [← HG.out] at b2
          have b3 := u8_t (d := 59) 59 rfl c3
          rw [← HG.out] at b3
          clear HFM
          go_enter Tryz.func56, Tryz.ntmps56
          go_wp2
          go_ret
          exact ⟨FIN.out 3 HF.out, rfl⟩
        · have HF : Hid (fmS (c :: t) = 0) := by show _ = _; rw [HFM.out, if_neg c1, if_neg c2, if_neg c3]
          have b1 := u8_f (d := 58) 58 rfl c1
          rw [← HG.out] at b1
          have b2 := u8_f (d := 83) 83 rfl c2
          rw [← HG.out] at b2
          have b3 := u8_f (d := 59) 59 rfl c3
          rw [← HG.out] at b3
          clear HFM
          go_enter Tryz.func56, Tryz.ntmps56
          go_wp2
          go_ret
          exact ⟨FIN.out 0 HF.out, rfl⟩
/- the kind that stands behind an S -/
def mkS : List UInt8 → Option Nat
  | _ :: c :: _ => if c = 48 ∨ c = 49 ∨ c = 53 ∨ c = 57 then some (c.toNat - 48) else none
  | _ => none
def mkV : Option Nat → Value
  | some n => .tuple #[.int .i64 (n : Int), .bool true]
  | none => .tuple #[.int .i64 0, .bool false]
set_option maxRecDepth 100000 in
theorem motorolaKind_any (l : List UInt8) (hl : l.length ≤ 140737488355328) (w : World) : Calls Tryz.prog 115 #[.string (bA l)] w fun e w' => e = .returned (mkV (mkS l)) ∧ w' = w := by
  have HSZ := hidD (ba_size l)
  have HBG := hidD (fun k h => ba_get l k h)
  generalize (bA l) = b at *
  have FIN : Hid (∀ o : Option Nat, mkS l = o → ∀ V, mkV o = V → Ending.returned V = .returned (mkV (mkS l))) := fun o h V hv => by rw [h, hv]
  have hsz : b.size ≤ 140737488355328 := by rw [HSZ.out]; exact hl
  by_cases hs : (b.size : Int) < 2
  · have HF : Hid (mkS l = none) := by
      show _ = _
      have h2 : l.length < 2 := by have := HSZ.out; omega
      clear FIN HBG HSZ hl
      cases l with
      | nil => rfl
      | cons x r =>
        cases r with
        | nil => rfl
        | cons y r => simp only [List.length_cons] at h2; omega
    clear hl
    go_enter Tryz.func115, Tryz.ntmps115
    go_wp2
    go_ret2
    exact ⟨FIN.out none HF.out _ rfl, rfl⟩
  · have hs1 : 1 < b.size := by omega
    have HG0 := hidD (HBG.out 1 hs1)
    obtain ⟨c, HG, HM⟩ : ∃ c : UInt8, Hid (b[1] = c) ∧ Hid (mkS l = if c = 48 ∨ c = 49 ∨ c = 53 ∨ c = 57 then some (c.toNat - 48) else none) := by
      have h2 : 1 < l.length := by rw [← HSZ.out]; exact hs1
      have h3 := HG0.out
      clear HSZ HBG HG0 FIN hl
      cases l with
      | nil => simp at h2
      | cons x r =>
        cases r with
        | nil => simp at h2
        | cons c r => exact ⟨c, h3, rfl⟩
    clear HG0 HBG hl
    have hi1 : (1 : Int) < b.size := by omega
    by_cases c1 : c = 48
    · have HF : Hid (mkS l = some 0) := by show _ = _; rw [HM.out, if_pos (.inl c1), c1]; rfl
      have b1 := u8_t (d := 48) 48 rfl c1
      rw [← HG.out] at b1
      clear HM
      go_enter Tryz.func115, Tryz.ntmps115
      go_wp2
      go_ret2
      refine ⟨FIN.out _ HF.out _ ?_, rfl⟩
      simp [mkV, go_sem]
      have := eq_of_beq b1
      omega
    · by_cases c2 : c = 49
      · have HF : Hid (mkS l = some 1) := by show _ = _; rw [HM.out, if_pos (.inr (.inl c2)), c2]; rfl
        have b1 := u8_f (d := 48) 48 rfl c1
        rw [← HG.out] at b1
        have b2 := u8_t (d := 49) 49 rfl c2
        rw [← HG.out] at b2
        clear HM
        go_enter Tryz.func115, Tryz.ntmps115
        go_wp2
        go_ret2
        refine ⟨FIN.out _ HF.out _ ?_, rfl⟩
        simp [mkV, go_sem]
        have := eq_of_beq b2
        omega
      · by_cases c3 : c = 53
        · have HF : Hid (mkS l = some 5) := by show _ = _; rw [HM.out, if_pos (.inr (.inr (.inl c3))), c3]; rfl
          have b1 := u8_f (d := 48) 48 rfl c1
          rw [← HG.out] at b1
          have b2 := u8_f (d := 49) 49 rfl c2
          rw [← HG.out] at b2
          have b3 := u8_t (d := 53) 53 rfl c3
          rw [← HG.out] at b3
          clear HM
          go_enter Tryz.func115, Tryz.ntmps115
          go_wp2
          go_ret2
          refine ⟨FIN.out _ HF.out _ ?_, rfl⟩
          simp [mkV, go_sem]
          have := eq_of_beq b3
          omega
        · by_cases c4 : c = 57
          · have HF : Hid (mkS l = some 9) := by show _ = _; rw [HM.out, if_pos (.inr (.inr (.inr c4))), c4]; rfl
            have b1 := u8_f (d := 48) 48 rfl c1
            rw [← HG.out] at b1
            have b2 := u8_f (d := 49) 49 rfl c2
            rw [← HG.out] at b2
            have b3 := u8_f (d := 53) 53 rfl c3
            rw [← HG.out] at b3
            have b4 := u8_t (d := 57) 57 rfl c4
            rw [← HG.out] at b4
            clear HM
            go_enter Tryz.func115, Tryz.ntmps115
            go_wp2
            go_ret2
            refine ⟨FIN.out _ HF.out _ ?_, rfl⟩
            simp [mkV, go_sem]
            have := eq_of_beq b4
            omega
          · have HF : Hid (mkS l = none) := by show _ = _; rw [HM.out, if_neg (by rintro (h | h | h | h); exact c1 h; exact c2 h; exact c3 h; exact c4 h)]
            have b1 := u8_f (d := 48) 48 rfl c1
            rw [← HG.out] at b1
            have b2 := u8_f (d := 49) 49 rfl c2
            rw [← HG.out] at b2
            have b3 := u8_f (d := 53) 53 rfl c3
            rw [← HG.out] at b3
            have b4 := u8_f (d := 57) 57 rfl c4
            rw [← HG.out] at b4
            clear HM
            go_enter Tryz.func115, Tryz.ntmps115
            go_wp2
            go_ret2
            refine ⟨FIN.out _ HF.out _ ?_, rfl⟩
            simp [mkV, go_sem]
end Go.Proofs.YtpemajghaceegaaGreatDoor
