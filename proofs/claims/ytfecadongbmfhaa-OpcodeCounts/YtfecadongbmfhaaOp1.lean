/- What the program's byB, overY and the fields' calls answer. -/
import Derived.Test.YtfecadongbmfhaaOp0
import Derived.Test.YtfecadongbmfhaaQuietL
import Derived.BigQuiet
import Derived.Laws.ShiftsVarLaws
import Derived.Laws.BitsAllLaws
import Derived.Laws.Unary
import Derived.Laws.Build
import Derived.Laws.ResultCell
import Derived.Laws.StructEq
import Derived.Deep.WholeRow
namespace Go.Proofs.Ytfecadongbmfhaa
open Go.RowKit
set_option linter.unusedVariables false

theorem Try.infoInt : (Try.prog.info? 3).map (fun i => (i.zero, i.size, i.bytes)) = some (some (.int .i64 0), 1, 8) := by kernel_rfl
theorem Try.undRow : Try.prog.underlying 81 = some (.array 8 3) := by kernel_rfl
theorem index_row8 (C : Array Value) (k : Nat) (u : Value) (hk : k < 8) (h : C[k]? = some u) (w : World) : (Instr.index 81 (.agg C) (.int .i64 (k : Int))).run Try.prog w = .ok u w := by
  have hpk : Try.prog.plainKey 3 = true := by kernel_rfl
  have hc : Try.prog.cellsOf 3 = 1 := by kernel_rfl
  obtain ⟨i0, hi, _⟩ := info_parts Try.infoInt
  have hn : (0 : Int) ≤ (k : Int) ∧ (k : Int) < ((8 : Nat) : Int) := by omega
  have hp := run_part_plain (P := Try.prog) (w := w) hpk (xs := C) (off := k) (v := u) h
  simp only [Instr.index, asIntOf, Sem.run_bind, Sem.run_pure, Result.andThen_ok, run_underlying Try.undRow, if_pos hn, run_sizeOf w hi, hc, Nat.mul_one, Int.toNat_natCast, hp]
def row8 (x0 x1 x2 x3 x4 x5 x6 x7 : Nat) (k : Nat) : Nat := [x0, x1, x2, x3, x4, x5, x6, x7].getD k 0
theorem ix8 (x0 x1 x2 x3 x4 x5 x6 x7 k : Nat) (hk : k < 8) (w : World) : (Instr.index 81 (.agg #[.int .i64 (x0 : Int), .int .i64 (x1 : Int), .int .i64 (x2 : Int), .int .i64 (x3 : Int), .int .i64 (x4 : Int), .int .i64 (x5 : Int), .int .i64 (x6 : Int), .int .i64 (x7 : Int)]) (.int .i64 (k : Int))).run Try.prog w = .ok (.int .i64 (row8 x0 x1 x2 x3 x4 x5 x6 x7 k : Int)) w := by
  refine index_row8 _ k _ hk ?_ w
  rcases lt8 hk with rfl | rfl | rfl | rfl | rfl | rfl | rfl | rfl <;> rfl

set_option maxRecDepth 100000 in
theorem byB_any (b : Nat) (hb : b < 8) (w : World) : Calls Try.prog 65 #[.int .i64 (b : Int)] w fun e w' => e = .returned (.int .i64 (byBS b : Int)) ∧ w' = w := by
  have hi := ix8 10 3 2 6 11 4 8 7 b hb
  rw [show row8 10 3 2 6 11 4 8 7 b = byBS b from rfl] at hi
  generalize byBS b = R at *
  simp only [Int.cast_ofNat_Int] at hi
  go_enter Try.func65, Try.ntmps65
  go_wp2_with fail
  go_ret
  exact ⟨rfl, rfl⟩
set_option maxRecDepth 100000 in
theorem overY_any (m : Nat) (w : World) : Calls Try.prog 66 #[.int .i64 (m : Int)] w fun e w' => e = .returned (.int .i64 (((if m = 4 then 5 else 8 : Nat)) : Int)) ∧ w' = w := by
  by_cases h : m = 4
  · subst h
    go_enter Try.func66, Try.ntmps66
    go_wp2_with fail
    go_ret
    exact ⟨rfl, rfl⟩
  · have h' : ((m : Int) == 4) = false := by simp; omega
    rw [if_neg h]
    have h2 : ¬ (m : Int) = 4 := by omega
    go_enter Try.func66, Try.ntmps66
    go_wp2_with fail
    go_ret
    exact ⟨rfl, rfl⟩

/- an instruction's cells -/
def inC (m k : Nat) : Array Value := #[.int .i64 (m : Int), .int .i64 (k : Int)]
def inZ : Array Value := #[.int .i64 0, .int .i64 0]
theorem in_one (m k : Nat) : (inC m k).all (·.oneCell') = true := by simp [inC, Value.oneCell']
theorem Try.zeroIn : (Try.prog.info? 64).map (fun i => (i.zero, i.size)) = some (some (.agg #[.int .i64 0, .int .i64 0]), 2) := by kernel_rfl
theorem in_size : (Try.prog.info? 64).map (·.size) = some 2 := (zero_of_info Try.zeroIn).2
theorem Below.draws {B : Nat} {a w : World} (h : Below B a w) : Below B a { w with drawn := w.drawn + 1 } := h.trans ⟨rfl, rfl, rfl, Nat.le_refl _, fun _ _ => rfl⟩
end Go.Proofs.Ytfecadongbmfhaa
