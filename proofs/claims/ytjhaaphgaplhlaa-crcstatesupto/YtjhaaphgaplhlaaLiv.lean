/- What Check of the program and live of the statements answer. -/
import Derived.Test.YtjhaaphgaplhlaaS32
import Derived.Lib.SlBytesConst
namespace Go.Proofs.Ytjhaaphgaplhlaa
open Go.RowKit
set_option linter.unusedVariables false

theorem Below.next {w a b : World} (h : Below w.heap.size w a) (k : Below a.heap.size a b) : Below w.heap.size w b := h.trans (k.mono h.size)
theorem Below.more {w a : World} (h : Below w.heap.size w a) (o : Obj) : Below w.heap.size w (a.alloc o) := h.alloc h.size o
def chk : List UInt8 := [49, 50, 51, 52, 53, 54, 55, 56, 57]
theorem conv_const (w : World) (b : Nat) (C : Array Value) (n c : Nat) (h : w.heap.size = b) : (convert 22 22 (.slice (some ⟨b, 0, none⟩) n c)).run Try.prog (w.alloc (.cells C 5)) = .ok (.slice (some ⟨b, 0, none⟩) n c) (w.alloc (.cells C 5 (C.size, C.size + 1))) := by
  subst h; exact Lib.run_convert_bytes_const (P := Try.prog) w 22 5 C n c Try.underlying22 Try.underlying5
theorem chk_at (w : World) (t : TypeId) : ByAt (w.alloc (.cells #[.int .u8 49, .int .u8 50, .int .u8 51, .int .u8 52, .int .u8 53, .int .u8 54, .int .u8 55, .int .u8 56, .int .u8 57] t (9, 10))) (.slice (some ⟨w.heap.size, 0, none⟩) 9 9) chk := by
  refine .inr ⟨w.heap.size, 0, 9, rfl, by simp, fun j hj => ?_⟩
  rw [Nat.zero_add, cell_of_row _ _ _ _ _ _ (heap_alloc_last w _)]
  have : j < 9 := hj
  have h2 : j = 0 ∨ j = 1 ∨ j = 2 ∨ j = 3 ∨ j = 4 ∨ j = 5 ∨ j = 6 ∨ j = 7 ∨ j = 8 := by omega
  rcases h2 with rfl | rfl | rfl | rfl | rfl | rfl | rfl | rfl | rfl <;> rfl

set_option maxRecDepth 100000 in
set_option maxHeartbeats 400000 in
theorem check_some (m : Md) (hm : MdOk m) (w : World) : Calls Try.prog 36 #[m.v] w fun e w' => e = .returned (.tuple #[.int .u64 (sumS m chk : Nat), .int .i64 0]) ∧ Below w.heap.size w w' := by
  have HS : Hid (∀ w0 : World, Calls Try.prog 24 #[m.v, .slice (some ⟨w0.heap.size, 0, none⟩) 9 9] (w0.alloc (.cells #[.int .u8 49, .int .u8 50, .int .u8 51, .int .u8 52, .int .u8 53, .int .u8 54, .int .u8 55, .int .u8 56, .int .u8 57] 5 (9, 10))) fun e w2 => e = .returned (.tuple #[.int .u64 (sumS m chk : Nat), .int .i64 0]) ∧ Below (w0.heap.size + 1) (w0.alloc (.cells #[.int .u8 49, .int .u8 50, .int .u8 51, .int .u8 52, .int .u8 53, .int .u8 54, .int .u8 55, .int .u8 56, .int .u8 57] 5 (9, 10))) w2) := fun w0 => by
    have := sum_some m hm chk (by decide) _ _ (chk_at w0 5)
    simpa using this
  have HB : Hid (∀ o1 o2, Below w.heap.size w ((w.alloc o1).alloc o2)) := fun o1 o2 => ((Below.refl w.heap.size w).alloc (Nat.le_refl _) o1).alloc (by simp) o2
  clear hm
  generalize sumS m chk = S at *
  obtain ⟨nm, ww, P, I, inn, out, X⟩ := m
  simp only [Md.v] at *
  have HS := hidD (HS.out (w.alloc (.cells #[.string nm, .int .i64 ww, .int .u64 P, .int .u64 I, .bool inn, .bool out, .int .u64 X] 35)))
  have hws : (w.alloc (.cells #[.string nm, .int .i64 ww, .int .u64 P, .int .u64 I, .bool inn, .bool out, .int .u64 X] 35)).heap.size = w.heap.size + 1 := by simp
  rw [hws] at HS
  clear hws
  have kc := conv_const
  go_enter Try.func36, Try.ntmps36
  go_wp2_with (go_at_call 24; refine HS.out.mono ?_; rintro e w2 ⟨rfl, hb2⟩)
  refine bodyPost_ret (v := .tuple #[.int .u64 S, .int .i64 0]) (by simp [results, Try.results36, go_sem]) rfl ⟨rfl, ?_⟩
  exact (HB.out _ _).trans (hb2.mono (by omega))

set_option maxRecDepth 100000 in
set_option maxHeartbeats 400000 in
theorem check_none (m : Mw) (hm : MwOk m) (hv : ¬ m.Valid) (w : World) : Calls Try.prog 36 #[m.v] w fun e w' => e = .returned (.tuple #[.int .u64 0, .int .i64 40]) ∧ Below w.heap.size w w' := by
  have HS := hidD (fun sl w => sum_none m hm hv sl w)
  have HB : Hid (∀ o1 o2, Below w.heap.size w ((w.alloc o1).alloc o2)) := fun o1 o2 => ((Below.refl w.heap.size w).alloc (Nat.le_refl _) o1).alloc (by simp) o2
  clear hm hv
  obtain ⟨nm, ww, P, I, inn, out, X⟩ := m
  simp only [Mw.v] at *
  have kc := conv_const
  go_enter Try.func36, Try.ntmps36
  go_wp2_with (go_at_call 24; refine (HS.out _ _).mono ?_; rintro e w2 ⟨rfl, hb2⟩)
  refine bodyPost_ret (v := .tuple #[.int .u64 0, .int .i64 40]) (by simp [results, Try.results36, go_sem]) rfl ⟨rfl, ?_⟩
  exact (HB.out _ _).trans (hb2.mono (by simp; omega))

def marc : Md := catL.getD 1 md0
theorem find_arc : findS ⟨#[67, 82, 67, 45, 49, 54, 47, 65, 82, 67]⟩ = (marc, true) :=
  find_hit (k := 1) (by omega) rfl (fun j hj => by obtain rfl : j = 0 := by omega
                                                   decide)
theorem marc_ok : MdOk marc := by constructor <;> decide
theorem m32_ok : MdOk m32 := by constructor <;> decide
theorem arc_sum : sumS marc chk = 47933 := by decide +kernel
theorem sum32_chk : sumS m32 chk = 3421780262 := by decide +kernel

set_option maxRecDepth 100000 in
set_option maxHeartbeats 400000 in
theorem live_any (w : World) : Calls Try.prog 13 #[] w fun e w' => e = .returned (.bool true) ∧ Below w.heap.size w w' := by
  have HC := hidD catalogue_any
  have HF := hidD (fun w => find_any ⟨#[67, 82, 67, 45, 49, 54, 47, 65, 82, 67]⟩ w)
  rw [find_arc] at HF
  have HK := hidD (fun w => check_some marc marc_ok w)
  rw [arc_sum] at HK
  have HN := hidD no_any
  have HS : Hid (∀ w0 : World, Calls Try.prog 20 #[.slice (some ⟨w0.heap.size, 0, none⟩) 9 9] (w0.alloc (.cells #[.int .u8 49, .int .u8 50, .int .u8 51, .int .u8 52, .int .u8 53, .int .u8 54, .int .u8 55, .int .u8 56, .int .u8 57] 5 (9, 10))) fun e w2 => e = .returned (.int .u32 3421780262) ∧ Below (w0.alloc (.cells #[.int .u8 49, .int .u8 50, .int .u8 51, .int .u8 52, .int .u8 53, .int .u8 54, .int .u8 55, .int .u8 56, .int .u8 57] 5 (9, 10))).heap.size (w0.alloc (.cells #[.int .u8 49, .int .u8 50, .int .u8 51, .int .u8 52, .int .u8 53, .int .u8 54, .int .u8 55, .int .u8 56, .int .u8 57] 5 (9, 10))) w2) := fun w0 => by
    have := sum32_any chk (by decide) _ _ (chk_at w0 5)
    rw [sum32_chk] at this
    exact this
  have kc := conv_const
  go_enter Try.func13, Try.ntmps13
  go_wp2_with (first | (go_at_call 14; refine (HC.out _).mono ?_; rintro e w1 ⟨g, rfl, _, _, hb1⟩) | (go_at_call 17; refine (HF.out _).mono ?_; rintro e w2 ⟨rfl, hb2⟩; simp only [marc, catL, Md.v, List.getD_cons_succ, List.getD_cons_zero]) | (go_at_call 36; refine (HK.out _).mono ?_; rintro e w3 ⟨rfl, hb3⟩) | (go_at_call 27; refine (HN.out _ _).mono ?_; rintro e w4 ⟨rfl, hb4⟩) | (go_at_call 20; refine (HS.out _).mono ?_; rintro e w5 ⟨rfl, hb5⟩))
  go_ret
  exact ⟨rfl, Below.next (Below.more (Below.next (Below.next (Below.more (Below.next hb1 hb2) _) hb3) hb4) _) hb5⟩
end Go.Proofs.Ytjhaaphgaplhlaa
