/- Plain: streams of parts. A row of nothing with room. -/
import Derived.Test.YtjpcndhdlbkilaaKm3
namespace Go.Proofs.Ytjpcndhdlbkilaa
open Go.RowKit
set_option linter.unusedVariables false

/- byte i of the parts 1, 2, .. of s bytes each, one behind the other -/
def sbS (s : Nat) (pt : Nat → List UInt8) (i : Nat) : UInt8 := (pt (i / s + 1)).getD (i % s) 0
def stL (s : Nat) (pt : Nat → List UInt8) (n : Nat) : List UInt8 := (List.range n).map (sbS s pt)
theorem stL_len (s : Nat) (pt : Nat → List UInt8) (n : Nat) : (stL s pt n).length = n := by simp [stL]
theorem stL_take (s : Nat) (pt : Nat → List UInt8) (n m : Nat) (h : n ≤ m) : (stL s pt m).take n = stL s pt n := by
  unfold stL
  rw [← List.map_take, List.take_range, Nat.min_eq_left h]
theorem stL_next (s : Nat) (hs : 0 < s) (pt : Nat → List UInt8) (i n : Nat) (hl : (pt (i + 1)).length = s) (hn : i * s < n) : stL s pt (i * s) ++ (pt (i + 1)).take (min s (n - i * s)) = stL s pt (min n ((i + 1) * s)) := by
  have hm : min n ((i + 1) * s) = i * s + min s (n - i * s) := by rw [Nat.add_mul, Nat.one_mul]; omega
  rw [hm]
  have hle : min s (n - i * s) ≤ s := Nat.min_le_left _ _
  generalize min s (n - i * s) = c at *
  unfold stL
  rw [List.range_add, List.map_append]
  congr 1
  apply List.ext_getElem?
  intro j
  by_cases hj : j < c
  · rw [List.getElem?_take, if_pos hj]
    simp only [List.map_map, List.getElem?_map, List.getElem?_range hj, Option.map_some, Function.comp]
    unfold sbS
    have h1 : (i * s + j) / s = i := by rw [Nat.mul_comm, Nat.mul_add_div hs, Nat.div_eq_of_lt (by omega), Nat.add_zero]
    have h2 : (i * s + j) % s = j := by rw [Nat.mul_comm, Nat.mul_add_mod, Nat.mod_eq_of_lt (by omega)]
    rw [h1, h2, List.getD_eq_getElem?_getD, List.getElem?_eq_getElem (by omega)]; rfl
  · rw [List.getElem?_take, if_neg hj]
    simp only [List.map_map, List.getElem?_map]
    rw [List.getElem?_eq_none (by simp; omega)]; rfl
theorem wpList_make0 (w : World) {ops : Array Oper} {rest : List Oper} {o : Oper} {a : Act} {Q : Exit → Act → World → Prop}
    (hg : o.guard = none) (l c : Operand) (hop : o.op = Op.makeSlice 22 l c) (n : Nat) (hl : a.eval l = .int .i64 0) (hc : a.eval c = .int .i64 (n : Int)) (hn : n ≤ 281474976710656)
    (hK : ∀ w', RowZ w' w.heap.size .u8 n 5 (fun _ => 0) → Below w.heap.size w w' → wpList Try.prog ops Q rest (a.put o.dst (.slice (some ⟨w.heap.size, 0, none⟩) 0 n)) w') :
    wpList Try.prog ops Q (o :: rest) a w := by
  obtain ⟨i, hi, hz0, hz1, hz2⟩ := info_parts Try.info5
  have hr := run_make (P := Try.prog) w 22 5 i (.int .u8 0) Try.underlying22 hi hz0 .i64 .i64 0 (n : Int) (by omega) (by omega) (by rw [hz2]; omega) (by omega)
  have hcells : madeCells (Value.cells (.int .u8 0)) ((n : Int).toNat * i.size) = rowZ .u8 n (fun _ => 0) := by
    rw [hz1, Nat.mul_one, Int.toNat_natCast, show Value.cells (.int .u8 0) = #[.int .u8 0] from rfl]
    apply Array.toList_inj.1
    rw [toList_madeCells_one]
    unfold rowZ
    rw [List.map_const', List.length_range]
  rw [hcells] at hr
  refine wpList_plain hg fun K hK' => ?_
  unfold Oper.wp
  simp only [execOp, hop, hl, hc, hr, Sem.run_bind, Result.andThen_ok, Sem.run_pure]
  exact hK' _ _ (hK _ (RowZ.new w .u8 n 5 _) ((Below.refl _ _).alloc (Nat.le_refl _) _))
end Go.Proofs.Ytjpcndhdlbkilaa
