/- Two blocks that are one. -/
import Derived.Test.YtgefampdfhbmbaaLw3
import Derived.Laws.StructEq
namespace Go.Proofs.Ytgefampdfhbmbaa
open Go.RowKit
set_option linter.unusedVariables false

theorem size5 (w : World) : Sem.run Try.prog (sizeOf 5) w = .ok 1 w := by
  obtain ⟨i0, hi, hz0, hz1, hz2⟩ := info_parts Try.info5
  simp [sizeOf, typeInfo, hi, hz1]
theorem forIn_yield {β : Type} {f : Nat → β → Sem (ForInStep β)} {b : β} {w : World} : ∀ {l : List Nat}, (∀ i ∈ l, (f i b).run Try.prog w = .ok (.yield b) w) → (forIn l b f).run Try.prog w = .ok b w
  | [], _ => rfl
  | i :: l, h => by
    rw [List.forIn_cons, Sem.run_bind, h i (by simp)]
    exact forIn_yield (l := l) fun j hj => h j (by simp [hj])
theorem eqRow (C : Array Value) (hC : ∀ k, k < 16 → ∃ y : Int, C[k]? = some (.int .u8 y)) (w : World) : Sem.run Try.prog (Op.equalIn 10000 50 (.agg C) (.agg C)) w = .ok true w := by
  have hpk : Try.prog.plainKey 5 = true := by kernel_rfl
  rw [show (10000 : Nat) = 9999 + 1 from rfl, Op.equalIn]
  simp only [Sem.run_bind, run_underlying Try.underlying50, Result.andThen_ok, size5]
  simp only [Std.Legacy.Range.forIn_eq_forIn_range', Std.Legacy.Range.size]
  rw [forIn_yield]
  · rfl
  · intro i hi
    have hi : i < 16 := by
      have := List.mem_range'_1.1 hi
      omega
    obtain ⟨y, hy⟩ := hC i hi
    have hp := run_part_plain (P := Try.prog) (w := w) hpk (xs := C) (off := i) (v := .int .u8 y) hy
    rw [Nat.mul_one]
    simp only [Sem.run_bind, hp, Result.andThen_ok]
    rw [show (9999 : Nat) = 9998 + 1 from rfl, run_equalIn_int w 9998 5 .u8 .u8 y y Try.underlying5]
    simp
end Go.Proofs.Ytgefampdfhbmbaa
