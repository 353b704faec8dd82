/- How many characters a text has: the document's Width and the program's. -/
import Derived.Test.YtmmlmpcalhfigaaMark
import Derived.Laws.RangeString
namespace Go.Proofs.Ytmmlmpcalhfigaa
open Go.RowKit
set_option linter.unusedVariables false

theorem decode_pos (s : ByteArray) (i : Nat) : 1 ≤ (Utf8.decode s i).2 := by
  unfold Utf8.decode
  simp only
  repeat' split
  all_goals simp
theorem next_any {P : Program} (w : World) (s : ByteArray) (pos : Nat) (h : pos < s.size) (ty : TypeId) :
    (Instr.next (.pointer (some ⟨w.heap.size, 0, none⟩)) true ty).run P (w.iter s pos) =
      .ok (.tuple #[.bool true, .int .i64 pos, .int .i32 (Utf8.decode s pos).1]) (w.iter s (pos + (Utf8.decode s pos).2)) := by
  simp only [Instr.next, getObj, setObj, Sem.run_bind, Sem.run, World.iter_heap, Result.andThen, h, if_true, World.iter_set]
  simp [goInt]
theorem next_end {P : Program} (w : World) (s : ByteArray) (pos : Nat) (h : ¬ pos < s.size) (ty : TypeId) :
    (Instr.next (.pointer (some ⟨w.heap.size, 0, none⟩)) true ty).run P (w.iter s pos) = .ok (.tuple #[.bool false]) (w.iter s pos) := run_next_end w s pos ty h

/-- How many characters from a place on, as a range goes. -/
def widS (s : ByteArray) (pos : Nat) : Nat := if h : pos < s.size then widS s (pos + (Utf8.decode s pos).2) + 1 else 0
termination_by s.size - pos
decreasing_by have := decode_pos s pos; omega
theorem widS_in {s : ByteArray} {pos : Nat} (h : pos < s.size) : widS s pos = widS s (pos + (Utf8.decode s pos).2) + 1 := by
  rw [widS, dif_pos h]
theorem widS_end {s : ByteArray} {pos : Nat} (h : ¬ pos < s.size) : widS s pos = 0 := by
  rw [widS, dif_neg h]
theorem widS_le (s : ByteArray) : ∀ (n pos : Nat), s.size - pos ≤ n → widS s pos ≤ n
  | 0, pos, h => by rw [widS_end (by omega)]; exact Nat.le_refl _
  | n + 1, pos, h => by
    by_cases hp : pos < s.size
    · rw [widS_in hp]
      have h1 := decode_pos s pos
      have := widS_le s n (pos + (Utf8.decode s pos).2) (by omega)
      omega
    · rw [widS_end hp]; omega
theorem iter_below (w : World) (s : ByteArray) (pos : Nat) : Below w.heap.size w (w.iter s pos) := (Below.refl w.heap.size w).alloc (Nat.le_refl _) _

set_option maxRecDepth 100000 in
set_option maxHeartbeats 400000 in
theorem refWidth_any (s : ByteArray) (hs : s.size ≤ maxLen) (w : World) : Calls Try.prog 18 #[.string s] w fun e w' => e = .returned (.int .i64 (widS s 0)) ∧ Below w.heap.size w w' := by
  have hle := widS_le s s.size 0 (by omega)
  unfold maxLen at hs
  go_enter Try.func18, Try.ntmps18
  go_wp2_with fail
  go_loopw [3] (fun nn wr => ∃ (pos c : Nat), nn = .int .i64 c ∧ wr = w.iter s pos ∧ c + widS s pos = widS s 0) (fun nn _ => widS s 0 - (intOf nn).toNat)
  case atStart => exact ⟨0, 0, rfl, rfl, by omega⟩
  case round =>
    obtain ⟨pos, c, rfl, rfl, hc⟩ := hrel
    have HC := hidD hc
    by_cases hp : pos < s.size
    · have hn := next_any (P := Try.prog) w s pos hp
      have HI := hidD (widS_in hp)
      have hcb : (c : Int) + 1 ≤ 9223372036854775807 := by have := HI.out; omega
      clear hc
      go_wp2
      go_roundw
      case rel => exact ⟨pos + (Utf8.decode s pos).2, c + 1, by go_num, rfl, by have := HI.out; have := HC.out; omega⟩
      case measure => simp [intOf]; have := HI.out; have := HC.out; omega
    · have hn := next_end (P := Try.prog) w s pos hp
      have HI := hidD (widS_end hp)
      clear hc
      go_wp2
      go_ret
      refine ⟨?_, iter_below w s pos⟩
      have h1 := HC.out
      rw [HI.out] at h1
      rw [← h1]
      rfl

set_option maxRecDepth 100000 in
set_option maxHeartbeats 400000 in
theorem width_any (s : ByteArray) (hs : s.size ≤ maxLen) (w : World) : Calls Try.prog 17 #[.string s] w fun e w' => e = .returned (.int .i64 (widS s 0)) ∧ Below w.heap.size w w' := by
  have hle := widS_le s s.size 0 (by omega)
  unfold maxLen at hs
  go_enter Try.func17, Try.ntmps17
  go_wp2_with fail
  go_loopw [3] (fun nn wr => ∃ (pos c : Nat), nn = .int .i64 c ∧ wr = w.iter s pos ∧ c + widS s pos = widS s 0) (fun nn _ => widS s 0 - (intOf nn).toNat)
  case atStart => exact ⟨0, 0, rfl, rfl, by omega⟩
  case round =>
    obtain ⟨pos, c, rfl, rfl, hc⟩ := hrel
    have HC := hidD hc
    by_cases hp : pos < s.size
    · have hn := next_any (P := Try.prog) w s pos hp
      have HI := hidD (widS_in hp)
      have hcb : (c : Int) + 1 ≤ 9223372036854775807 := by have := HI.out; omega
      clear hc
      go_wp2
      go_roundw
      case rel => exact ⟨pos + (Utf8.decode s pos).2, c + 1, by go_num, rfl, by have := HI.out; have := HC.out; omega⟩
      case measure => simp [intOf]; have := HI.out; have := HC.out; omega
    · have hn := next_end (P := Try.prog) w s pos hp
      have HI := hidD (widS_end hp)
      clear hc
      go_wp2
      go_ret
      refine ⟨?_, iter_below w s pos⟩
      have h1 := HC.out
      rw [HI.out] at h1
      rw [← h1]
      rfl

end Go.Proofs.Ytmmlmpcalhfigaa
