/- A state that is built. -/
import Derived.Test.YtjpcndhdlbkilaaSt5
namespace Go.Proofs.Ytjpcndhdlbkilaa
open Go.RowKit
set_option linter.unusedVariables false

def bV (k n : Int) (f : Nat → Int) (i : Nat) : Value :=
  if i = 0 then .int .i64 k else if i = 1 then .int .u64 n else if i < 130 then .int .u8 0 else if i < 210 then .int .u64 (f (i - 130)) else if i < 218 then .int .u32 0 else .int .u64 0
set_option maxRecDepth 100000 in
theorem build63 (k : Int) (f : Nat → Int) (w : World) : (Instr.build 63 #[(0, .int .i64 k), (3, .agg (rowZ .u64 80 f))]).run Try.prog w = .ok (.agg ((List.range 226).map (bV k 0 f)).toArray) w := by kernel_rfl
set_option maxRecDepth 100000 in
theorem build63n (k n : Int) (f : Nat → Int) (w : World) : (Instr.build 63 #[(0, .int .i64 k), (1, .int .u64 n), (3, .agg (rowZ .u64 80 f))]).run Try.prog w = .ok (.agg ((List.range 226).map (bV k n f)).toArray) w := by kernel_rfl
set_option maxRecDepth 100000 in
theorem field53 (f : Nat → Int) (w : World) : (Instr.field 53 (.agg (rowZ .u64 88 f)) 0).run Try.prog w = .ok (.agg (rowZ .u64 80 f)) w := by kernel_rfl
theorem bV_st (k n : Nat) (i : Nat) (hi : i < 226) : bV (k : Int) (n : Int) (fun j => (coS k j : Int)) i = stV k n (fun _ => 0) (fun _ => 0) i := by
  unfold bV stV
  simp
theorem bV_row (k n : Nat) : ((List.range 226).map (bV (k : Int) (n : Int) (fun j => (coS k j : Int)))) = (List.range 226).map (stV k n (fun _ => 0) (fun _ => 0)) := List.map_congr_left fun i hi => bV_st k n i (List.mem_range.1 hi)
end Go.Proofs.Ytjpcndhdlbkilaa
