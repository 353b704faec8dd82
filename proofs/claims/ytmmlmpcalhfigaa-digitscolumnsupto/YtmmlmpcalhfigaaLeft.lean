/- What missing, Left and Right of the program answer. -/
import Derived.Test.YtmmlmpcalhfigaaMisc
import Derived.Test.YtmmlmpcalhfigaaShelf
namespace Go.Proofs.Ytmmlmpcalhfigaa
open Go.RowKit
set_option linter.unusedVariables false

theorem repeat_one (c : UInt8) : ∀ n : Nat, Lib.repeatL [c] n = List.replicate n c
  | 0 => rfl
  | n + 1 => by
    rw [Lib.repeatL, repeat_one c n]
    rfl

set_option maxRecDepth 100000 in
set_option maxHeartbeats 400000 in
theorem missing_any (s : ByteArray) (hs : s.size ≤ maxLen) (width : Int) (w : World) : Calls Try.prog 34 #[.string s, .int .i64 width] w fun e w' => e = .returned (.string ⟨(List.replicate (missS s width).toNat (32 : UInt8)).toArray⟩) ∧ Below w.heap.size w w' := by
  have HW := hidD (width_any s hs w)
  have hle := widS_le s s.size 0 (by omega)
  unfold maxLen at hs
  have HR := hidD (fun (c : Nat) (w : World) (hc : c ≤ 255) => Try.strings_Repeat ⟨#[32]⟩ c w (by omega) (by show 1 * c ≤ _; omega))
  have HE : Hid (∀ c, widS s 0 = c → missS s width = if width < 0 then 0 else (if 255 < width then 255 else width) - c) := fun c hc => by rw [← hc]; rfl
  generalize hwd : widS s 0 = wd at *
  have HM := hidD (HE.out wd rfl)
  clear HE hwd
  have hms := missS_le s width
  generalize missS s width = ms at *
  have HX : Hid (max 0 (min (max width 0) 255 - (wd : Int)) = ((ms.toNat : Nat) : Int)) := by
    show max 0 (min (max width 0) 255 - (wd : Int)) = _
    have h1 := HM.out
    split at h1
    · omega
    · split at h1 <;> omega
  have HRP := hidD (repeat_one 32 ms.toNat)
  have hmn : ms.toNat ≤ 255 := by omega
  clear HM
  go_enter Try.func34, Try.ntmps34
  go_wp2_with (first
    | (go_at_call 17; refine HW.out.mono ?_; rintro e w1 ⟨rfl, hb1⟩)
    | (go_at_call 39; rw [HX.out]; refine (HR.out ms.toNat _ hmn).mono ?_; rintro e w2 ⟨rfl, hb2⟩))
  go_ret
  refine ⟨ret_str (by rw [HRP.out]), hb1.trans (hb2.mono hb1.size)⟩

set_option maxRecDepth 100000 in
set_option maxHeartbeats 400000 in
theorem left_any (s : List UInt8) (hs : s.length ≤ 140737488355328) (width : Int) (w : World) : Calls Try.prog 19 #[.string ⟨s.toArray⟩, .int .i64 width] w fun e w' => e = .returned (.string ⟨(leftS s width).toArray⟩) ∧ Below w.heap.size w w' := by
  have HM := hidD (missing_any ⟨s.toArray⟩ (by rw [ba_size]; unfold maxLen; omega) width w)
  have hm := missS_le ⟨s.toArray⟩ width
  have HE : Hid (leftS s width = s ++ List.replicate (missS ⟨s.toArray⟩ width).toNat 32) := rfl
  have hbl : (List.replicate (missS ⟨s.toArray⟩ width).toNat (32 : UInt8)).length ≤ 255 := by simp; omega
  generalize List.replicate (missS ⟨s.toArray⟩ width).toNat (32 : UInt8) = B at *
  generalize missS ⟨s.toArray⟩ width = ms at *
  generalize leftS s width = R at *
  go_enter Try.func19, Try.ntmps19
  go_wp2_with (go_at_call 34; refine HM.out.mono ?_; rintro e w1 ⟨rfl, hb1⟩)
  go_ret
  exact ⟨by rw [HE.out]; exact ret_str (ba_append _ _), hb1⟩
set_option maxRecDepth 100000 in
set_option maxHeartbeats 400000 in
theorem right_any (s : List UInt8) (hs : s.length ≤ 140737488355328) (width : Int) (w : World) : Calls Try.prog 21 #[.string ⟨s.toArray⟩, .int .i64 width] w fun e w' => e = .returned (.string ⟨(rightS s width).toArray⟩) ∧ Below w.heap.size w w' := by
  have HM := hidD (missing_any ⟨s.toArray⟩ (by rw [ba_size]; unfold maxLen; omega) width w)
  have hm := missS_le ⟨s.toArray⟩ width
  have HE : Hid (rightS s width = List.replicate (missS ⟨s.toArray⟩ width).toNat 32 ++ s) := rfl
  have hbl : (List.replicate (missS ⟨s.toArray⟩ width).toNat (32 : UInt8)).length ≤ 255 := by simp; omega
  generalize List.replicate (missS ⟨s.toArray⟩ width).toNat (32 : UInt8) = B at *
  generalize missS ⟨s.toArray⟩ width = ms at *
  generalize rightS s width = R at *
  go_enter Try.func21, Try.ntmps21
  go_wp2_with (go_at_call 34; refine HM.out.mono ?_; rintro e w1 ⟨rfl, hb1⟩)
  go_ret
  exact ⟨by rw [HE.out]; exact ret_str (ba_append _ _), hb1⟩
end Go.Proofs.Ytmmlmpcalhfigaa
