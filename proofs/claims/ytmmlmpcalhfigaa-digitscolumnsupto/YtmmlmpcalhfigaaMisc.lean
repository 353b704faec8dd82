/- What Bytes, Decimal, blanks, missing, Left and Right of the document answer. -/
import Derived.Test.YtmmlmpcalhfigaaShowA
import Derived.Test.YtmmlmpcalhfigaaWid
namespace Go.Proofs.Ytmmlmpcalhfigaa
open Go.RowKit
set_option linter.unusedVariables false

/-- How many bytes a number has room in. -/
def bytesS (v : Nat) : Nat := if h : 255 < v then bytesS (v / 256) + 1 else 1
termination_by v
decreasing_by omega
theorem bytesS_in {v : Nat} (h : 255 < v) : bytesS v = bytesS (v / 256) + 1 := by rw [bytesS, dif_pos h]
theorem bytesS_end {v : Nat} (h : ¬ 255 < v) : bytesS v = 1 := by rw [bytesS, dif_neg h]
theorem bytesS_le : ∀ (k v : Nat), v < 256 ^ (k + 1) → bytesS v ≤ k + 1
  | 0, v, h => by rw [bytesS_end (by simpa using Nat.le_of_lt_succ h)]; exact Nat.le_refl _
  | k + 1, v, h => by
    by_cases hv : 255 < v
    · rw [bytesS_in hv]
      have h1 : v / 256 < 256 ^ (k + 1) := by
        rw [Nat.div_lt_iff_lt_mul (by omega), ← Nat.pow_succ]; exact h
      have := bytesS_le k (v / 256) h1
      omega
    · rw [bytesS_end hv]; omega
theorem bytesS_8 {v : Nat} (h : v ≤ 18446744073709551615) : bytesS v ≤ 8 := bytesS_le 7 v (by
  have : (256 : Nat) ^ (7 + 1) = 18446744073709551616 := by decide
  omega)

/-- The text of a number with its sign. -/
def decS (v : Int) : List UInt8 := if 0 ≤ v then digS 10 65 v.toNat [] else 45 :: digS 10 65 (-v).toNat []
theorem show_dec (v : Nat) : showS v 10 0 = (digS 10 65 v [], 0) := by
  unfold showS markL
  simp [padS]
theorem digS_len (k : Nat) : ∀ (f v : Nat) (acc : List UInt8), (digS k f v acc).length ≤ acc.length + f
  | 0, v, acc => Nat.le_refl _
  | f + 1, v, acc => by
    rw [digS]
    split
    · have := digS_len k f (v / k) (hexC (v % k) :: acc)
      simp only [List.length_cons] at this
      omega
    · omega
theorem ret_str {a b : ByteArray} (h : a = b) : Ending.returned (.string a) = .returned (.string b) := by rw [h]

theorem blank_next (j : Nat) : ({ data := (List.replicate j (32 : UInt8)).toArray } : ByteArray) ++ { data := #[32] } = ⟨(List.replicate (j + 1) (32 : UInt8)).toArray⟩ := by
  rw [show ({ data := #[32] } : ByteArray) = { data := [32].toArray } from rfl, ba_append, ← List.replicate_succ']

set_option maxRecDepth 100000 in
set_option maxHeartbeats 400000 in
theorem refBlanks_any (n : Int) (hn : n ≤ 255) (w : World) : Calls Try.prog 35 #[.int .i64 n] w fun e w' => e = .returned (.string ⟨(List.replicate n.toNat (32 : UInt8)).toArray⟩) ∧ w' = w := by
  go_enter Try.func35, Try.ntmps35
  go_wp2_with fail
  go_loop [3, 4] (fun ss ii => ∃ j : Nat, ss = .string ⟨(List.replicate j (32 : UInt8)).toArray⟩ ∧ ii = .int .i64 j ∧ j ≤ n.toNat) (fun _ ii => n.toNat - (intOf ii).toNat)
  case atStart => exact ⟨0, rfl, rfl, Nat.zero_le _⟩
  case round =>
    obtain ⟨j, rfl, rfl, hj⟩ := hrel
    have hjl : (List.replicate j (32 : UInt8)).length ≤ 255 := by simp; omega
    have HB := hidD (blank_next j)
    by_cases hp : (j : Int) < n
    · generalize List.replicate j (32 : UInt8) = X at *
      go_wp2
      go_round
      case rel => exact ⟨j + 1, str_eq HB.out, by go_num, by omega⟩
      case measure => simp [intOf]; omega
    · have he : j = n.toNat := by omega
      have HX : Hid (List.replicate j (32 : UInt8) = List.replicate n.toNat 32) := by show List.replicate j _ = _; rw [he]
      generalize List.replicate j (32 : UInt8) = X at *
      clear he
      go_wp2
      go_ret
      exact ⟨ret_str (by rw [HX.out]; simp), rfl⟩

/-- How many characters a text lacks. -/
def missS (s : ByteArray) (width : Int) : Int := if width < 0 then 0 else (if 255 < width then 255 else width) - widS s 0
set_option maxRecDepth 100000 in
set_option maxHeartbeats 400000 in
theorem refMissing_any (s : ByteArray) (hs : s.size ≤ maxLen) (width : Int) (w : World) : Calls Try.prog 36 #[.string s, .int .i64 width] w fun e w' => e = .returned (.int .i64 (missS s width)) ∧ Below w.heap.size w w' := by
  have HW := hidD (refWidth_any s hs w)
  have hle := widS_le s s.size 0 (by omega)
  unfold maxLen at hs
  have HE : Hid (∀ c, widS s 0 = c → missS s width = if width < 0 then 0 else (if 255 < width then 255 else width) - c) := fun c hc => by rw [← hc]; rfl
  generalize hwd : widS s 0 = wd at *
  have HM := hidD (HE.out wd rfl)
  clear HE
  by_cases h1 : width < 0
  · have e : missS s width = 0 := by rw [HM.out, if_pos h1]
    rw [e]
    clear e HM
    go_enter Try.func36, Try.ntmps36
    go_wp2_with fail
    go_ret
    exact ⟨rfl, Below.refl _ _⟩
  · by_cases h2 : 255 < width
    · have e : missS s width = 255 - wd := by rw [HM.out, if_neg h1, if_pos h2]
      rw [e]
      clear e HM
      go_enter Try.func36, Try.ntmps36
      go_wp2_with (go_at_call 18; refine HW.out.mono ?_; rintro e w' ⟨rfl, hb⟩)
      go_ret
      exact ⟨rfl, hb⟩
    · have e : missS s width = width - wd := by rw [HM.out, if_neg h1, if_neg h2]
      rw [e]
      clear e HM
      go_enter Try.func36, Try.ntmps36
      go_wp2_with (go_at_call 18; refine HW.out.mono ?_; rintro e w' ⟨rfl, hb⟩)
      go_ret
      exact ⟨rfl, hb⟩
theorem missS_le (s : ByteArray) (width : Int) : missS s width ≤ 255 := by
  unfold missS
  split
  · omega
  · split <;> omega

def leftS (s : List UInt8) (width : Int) : List UInt8 := s ++ List.replicate (missS ⟨s.toArray⟩ width).toNat 32
def rightS (s : List UInt8) (width : Int) : List UInt8 := List.replicate (missS ⟨s.toArray⟩ width).toNat 32 ++ s
set_option maxRecDepth 100000 in
set_option maxHeartbeats 400000 in
theorem refLeft_any (s : List UInt8) (hs : s.length ≤ 140737488355328) (width : Int) (w : World) : Calls Try.prog 20 #[.string ⟨s.toArray⟩, .int .i64 width] w fun e w' => e = .returned (.string ⟨(leftS s width).toArray⟩) ∧ Below w.heap.size w w' := by
  have HM := hidD (refMissing_any ⟨s.toArray⟩ (by rw [ba_size]; unfold maxLen; omega) width w)
  have hm := missS_le ⟨s.toArray⟩ width
  have HB := hidD (fun (w : World) => refBlanks_any (missS ⟨s.toArray⟩ width) hm w)
  have HE : Hid (leftS s width = s ++ List.replicate (missS ⟨s.toArray⟩ width).toNat 32) := rfl
  have hbl : (List.replicate (missS ⟨s.toArray⟩ width).toNat (32 : UInt8)).length ≤ 255 := by simp; omega
  generalize List.replicate (missS ⟨s.toArray⟩ width).toNat (32 : UInt8) = B at *
  generalize missS ⟨s.toArray⟩ width = ms at *
  generalize leftS s width = R at *
  go_enter Try.func20, Try.ntmps20
  go_wp2_with (first
    | (go_at_call 36; refine HM.out.mono ?_; rintro e w1 ⟨rfl, hb1⟩)
    | (go_at_call 35; refine (HB.out _).mono ?_; rintro e w' ⟨rfl, rfl⟩))
  go_ret
  exact ⟨by rw [HE.out]; exact ret_str (ba_append _ _), hb1⟩
set_option maxRecDepth 100000 in
set_option maxHeartbeats 400000 in
theorem refRight_any (s : List UInt8) (hs : s.length ≤ 140737488355328) (width : Int) (w : World) : Calls Try.prog 22 #[.string ⟨s.toArray⟩, .int .i64 width] w fun e w' => e = .returned (.string ⟨(rightS s width).toArray⟩) ∧ Below w.heap.size w w' := by
  have HM := hidD (refMissing_any ⟨s.toArray⟩ (by rw [ba_size]; unfold maxLen; omega) width w)
  have hm := missS_le ⟨s.toArray⟩ width
  have HB := hidD (fun (w : World) => refBlanks_any (missS ⟨s.toArray⟩ width) hm w)
  have HE : Hid (rightS s width = List.replicate (missS ⟨s.toArray⟩ width).toNat 32 ++ s) := rfl
  have hbl : (List.replicate (missS ⟨s.toArray⟩ width).toNat (32 : UInt8)).length ≤ 255 := by simp; omega
  generalize List.replicate (missS ⟨s.toArray⟩ width).toNat (32 : UInt8) = B at *
  generalize missS ⟨s.toArray⟩ width = ms at *
  generalize rightS s width = R at *
  go_enter Try.func22, Try.ntmps22
  go_wp2_with (first
    | (go_at_call 36; refine HM.out.mono ?_; rintro e w1 ⟨rfl, hb1⟩)
    | (go_at_call 35; refine (HB.out _).mono ?_; rintro e w' ⟨rfl, rfl⟩))
  go_ret
  exact ⟨by rw [HE.out]; exact ret_str (ba_append _ _), hb1⟩
end Go.Proofs.Ytmmlmpcalhfigaa
