/- Two sets held against each other. -/
import Derived.Test.YtgmbkelmgolkpaaDoorGe
import Derived.Laws.StructEq
namespace Go.Proofs.YtgmbkelmgolkpaaDoor
open Go.RowKit
set_option linter.unusedVariables false

theorem size59 (w : World) : Sem.run Tryd.prog (sizeOf 84) w = .ok 1 w := by
  obtain ⟨i0, hi, hz0, hz1, hz2⟩ := info_parts Tryd.info84
  simp [sizeOf, typeInfo, hi, hz1]
theorem eqSet (a b c d : Int) (w : World) : Sem.run Tryd.prog (Op.equalIn 10000 86 (.agg #[.int .u64 a, .int .u64 b]) (.agg #[.int .u64 c, .int .u64 d])) w = .ok (a == c && b == d) w := by
  have hpk : Tryd.prog.plainKey 84 = true := by kernel_rfl
  have hu : Tryd.prog.underlying 86 = some (.array 2 84) := by kernel_rfl
  have hu59 : Tryd.prog.underlying 84 = some (.int .u64) := by kernel_rfl
  have p0 := run_part_plain (P := Tryd.prog) (w := w) hpk (xs := #[.int .u64 a, .int .u64 b]) (off := 0) (v := .int .u64 a) rfl
  have p1 := run_part_plain (P := Tryd.prog) (w := w) hpk (xs := #[.int .u64 a, .int .u64 b]) (off := 1) (v := .int .u64 b) rfl
  have q0 := run_part_plain (P := Tryd.prog) (w := w) hpk (xs := #[.int .u64 c, .int .u64 d]) (off := 0) (v := .int .u64 c) rfl
  have q1 := run_part_plain (P := Tryd.prog) (w := w) hpk (xs := #[.int .u64 c, .int .u64 d]) (off := 1) (v := .int .u64 d) rfl
  rw [show (10000 : Nat) = 9999 + 1 from rfl, Op.equalIn]
  simp only [Sem.run_bind, run_underlying hu, Result.andThen_ok, size59]
  simp only [Std.Legacy.Range.forIn_eq_forIn_range', Std.Legacy.Range.size]
  rw [show List.range' 0 ((2 - 0 + 1 - 1) / 1) 1 = [0, 1] from rfl, List.forIn_cons, Sem.run_bind]
  simp only [Sem.run_bind, Nat.mul_one, p0, q0, Result.andThen_ok]
  rw [show (9999 : Nat) = 9998 + 1 from rfl, run_equalIn_int w 9998 84 .u64 .u64 a c hu59]
  by_cases h1 : a = c
  · subst h1
    simp only [Result.andThen_ok, List.forIn_cons, List.forIn_nil, beq_self_eq_true, Bool.true_and]
    by_cases h2 : b = d
    · subst h2
      simp [run_equalIn_int w 9998 84 .u64 .u64 b b hu59, Sem.run_bind, Sem.run_pure, p1]
    · simp [run_equalIn_int w 9998 84 .u64 .u64 b d hu59, Sem.run_bind, Sem.run_pure, p1, q1, h2]
  · simp [h1, Sem.run_pure]
end Go.Proofs.YtgmbkelmgolkpaaDoor
