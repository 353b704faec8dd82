/- What the document's mixed, Mix, Unmix and Column answer. -/
import Derived.Test.YtdbledfpphkppabRf7
import Derived.Test.YtdbledfpphkppabQuietL
namespace Go.Proofs.Ytdbledfpphkppab
open Go.RowKit
set_option linter.unusedVariables false

/- a column -/
def colR (c : Nat → UInt8) : Array Value := rowZ .u8 4 (fun i => ((c i).toNat : Int))
def mixTo (c m : Nat → UInt8) (i : Nat) : Nat → UInt8
  | 0 => 0
  | k + 1 => mixTo c m i k ^^^ bm 27 (c ((i + k) % 4)) (m k)
def mixS (c m : Nat → UInt8) (i : Nat) : UInt8 := mixTo c m i 4
/- the rows so far -/
def mixAt (c m : Nat → UInt8) (j k i : Nat) : UInt8 := if i < j then mixS c m i else if i = j then mixTo c m i k else 0
theorem mixAt_zero (c m : Nat → UInt8) (i : Nat) : mixAt c m 0 0 i = 0 := by unfold mixAt; rw [if_neg (by omega)]; split <;> rfl
theorem mixAt_next (c m : Nat → UInt8) (j i : Nat) : mixAt c m j 4 i = mixAt c m (j + 1) 0 i := by
  unfold mixAt
  by_cases h : i < j
  · rw [if_pos h, if_pos (by omega)]
  · rw [if_neg h]
    by_cases h2 : i = j
    · subst h2; rw [if_pos rfl, if_pos (by omega)]; rfl
    · rw [if_neg h2, if_neg (by omega)]; split <;> rfl
theorem mixAt_step (c m : Nat → UInt8) (j k i : Nat) : (if i = j then mixTo c m j k ^^^ bm 27 (c ((j + k) % 4)) (m k) else mixAt c m j k i) = mixAt c m j (k + 1) i := by
  unfold mixAt
  by_cases h : i = j
  · subst h; rw [if_pos rfl, if_neg (by omega), if_pos rfl]; rfl
  · rw [if_neg h, if_neg h, if_neg h]
theorem mixAt_here (c m : Nat → UInt8) (j k : Nat) : mixAt c m j k j = mixTo c m j k := by unfold mixAt; rw [if_neg (by omega), if_pos rfl]
theorem mixAt_all (c m : Nat → UInt8) {i : Nat} (h : i < 4) : mixAt c m 4 0 i = mixS c m i := by unfold mixAt; rw [if_pos h]
theorem Try.zero32 : (Try.prog.info? 32).map (fun i => (i.zero, i.size)) = some (some (.agg (rowZ .u8 4 (fun _ => 0))), 4) := by kernel_rfl

theorem four_rows (w : World) (a b c d : Nat → Int) (ty : TypeId) : RowZ ((((w.alloc (.cells (rowZ .u8 4 a) ty)).alloc (.cells (rowZ .u8 4 b) ty)).alloc (.cells (rowZ .u8 4 c) ty)).alloc (.cells (rowZ .u8 4 d) ty)) w.heap.size .u8 4 ty a
    ∧ RowZ ((((w.alloc (.cells (rowZ .u8 4 a) ty)).alloc (.cells (rowZ .u8 4 b) ty)).alloc (.cells (rowZ .u8 4 c) ty)).alloc (.cells (rowZ .u8 4 d) ty)) (w.heap.size + 1) .u8 4 ty b
    ∧ RowZ ((((w.alloc (.cells (rowZ .u8 4 a) ty)).alloc (.cells (rowZ .u8 4 b) ty)).alloc (.cells (rowZ .u8 4 c) ty)).alloc (.cells (rowZ .u8 4 d) ty)) (w.heap.size + 2) .u8 4 ty c
    ∧ RowZ ((((w.alloc (.cells (rowZ .u8 4 a) ty)).alloc (.cells (rowZ .u8 4 b) ty)).alloc (.cells (rowZ .u8 4 c) ty)).alloc (.cells (rowZ .u8 4 d) ty)) (w.heap.size + 3) .u8 4 ty d
    ∧ Below w.heap.size w ((((w.alloc (.cells (rowZ .u8 4 a) ty)).alloc (.cells (rowZ .u8 4 b) ty)).alloc (.cells (rowZ .u8 4 c) ty)).alloc (.cells (rowZ .u8 4 d) ty)) := by
  have al : ∀ (w : World) o, Below w.heap.size w (w.alloc o) := fun w o => (Below.refl _ _).alloc (Nat.le_refl _) _
  have sz : ∀ (w : World) o, (w.alloc o).heap.size = w.heap.size + 1 := fun w o => by simp
  have h1 := RowZ.new w .u8 4 ty a
  have h2 := RowZ.new (w.alloc (.cells (rowZ .u8 4 a) ty)) .u8 4 ty b
  have h3 := RowZ.new ((w.alloc (.cells (rowZ .u8 4 a) ty)).alloc (.cells (rowZ .u8 4 b) ty)) .u8 4 ty c
  have h4 := RowZ.new (((w.alloc (.cells (rowZ .u8 4 a) ty)).alloc (.cells (rowZ .u8 4 b) ty)).alloc (.cells (rowZ .u8 4 c) ty)) .u8 4 ty d
  rw [sz] at h2
  rw [sz, sz] at h3
  rw [sz, sz, sz] at h4
  exact ⟨((h1.next (al _ _)).next (al _ _)).next (al _ _), (h2.next (al _ _)).next (al _ _), h3.next (al _ _), h4, ((((Below.refl _ _).alloc (Nat.le_refl _) _).alloc (by rw [sz]; omega) _).alloc (by rw [sz, sz]; omega) _).alloc (by rw [sz, sz, sz]; omega) _⟩
theorem below_setRow {B g : Nat} {a w : World} (h : Below B a w) (hg : B ≤ g) (cs : Array Value) : Below B a (w.setRow g cs) :=
  h.trans ⟨by simp, by simp, by simp, by simp, fun k hk => setRow_other _ _ _ _ (by omega)⟩
theorem wrap_small {n : Nat} (h : n < 9223372036854775808) : IntKind.i64.wrap (n : Int) = (n : Int) := by rw [IntKind.wrap_i64]; omega

end Go.Proofs.Ytdbledfpphkppab
