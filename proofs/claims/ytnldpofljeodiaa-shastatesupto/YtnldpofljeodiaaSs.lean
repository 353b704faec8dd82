/- A state in memory. -/
import Derived.Test.YtnldpofljeodiaaSp
import Derived.Test.YtnldpofljeodiaaCpy
namespace Go.Proofs.Ytnldpofljeodiaa
open Go.RowKit
set_option linter.unusedVariables false

/- a block of 226 cells of type 63 -/
def StRow (w : World) (g : Nat) (f : Nat → Value) : Prop := w.heap[g]? = some (.cells ((List.range 226).map f).toArray (92 : TypeId) (0, 0))
theorem StRow.lt {w : World} {g : Nat} {f : Nat → Value} (h : StRow w g f) : g < w.heap.size := row_lt h
theorem StRow.cell {w : World} {g : Nat} {f : Nat → Value} (h : StRow w g f) {i : Nat} (hi : i < 226) : w.cell? ⟨g, i, none⟩ = some (f i) := by
  rw [cell_of_row _ _ _ _ _ _ h]; simp [hi]
theorem StRow.frozen {w : World} {g : Nat} {f : Nat → Value} (h : StRow w g f) (i : Nat) : w.frozen? ⟨g, i, none⟩ = false := frozen_of_row _ _ _ _ _ h
theorem StRow.congr {w : World} {g : Nat} {f f' : Nat → Value} (h : StRow w g f) (he : ∀ i, i < 226 → f i = f' i) : StRow w g f' := by
  unfold StRow at *
  rw [h]
  congr 3
  exact List.map_congr_left fun i hi => he i (List.mem_range.1 hi)
theorem StRow.set {w : World} {g : Nat} {f : Nat → Value} (h : StRow w g f) {i : Nat} (hi : i < 226) (v : Value) : StRow (w.setCell ⟨g, i, none⟩ v) g (fun j => if j = i then v else f j) := by
  unfold StRow
  rw [heap_setCell_same w g i _ _ _ h]
  congr 2
  apply Array.ext_getElem?
  intro j
  rw [Array.getElem?_setIfInBounds]
  by_cases hj : i = j
  · subst hj; simp [hi]
  · rw [if_neg hj]
    by_cases hl : j < 226
    · simp [hl, Ne.symm hj]
    · simp [hl]
theorem StRow.sets {g : Nat} : ∀ (vs : List Value) {w : World} {f : Nat → Value} (o : Nat), StRow w g f → o + vs.length ≤ 226 → StRow (w.setCells g o vs) g (fun j => if o ≤ j ∧ j < o + vs.length then vs.getD (j - o) undef else f j)
  | [], w, f, o, h, _ => by
    refine h.congr fun i _ => ?_
    rw [if_neg (by simp)]
  | v :: vs, w, f, o, h, hl => by
    simp only [List.length_cons] at hl
    have h2 := StRow.sets vs (o + 1) (h.set (i := o) (by omega) v) (by omega)
    refine h2.congr fun i _ => ?_
    simp only [List.length_cons]
    by_cases h3 : o + 1 ≤ i ∧ i < o + 1 + vs.length
    · rw [if_pos h3, if_pos (by omega), show i - o = (i - (o + 1)) + 1 by omega, List.getD_cons_succ]
    · rw [if_neg h3]
      by_cases h4 : i = o
      · subst h4; rw [if_pos rfl, if_pos (by omega), Nat.sub_self]; rfl
      · rw [if_neg h4, if_neg (by omega)]
theorem But.sets {g : Nat} {a : World} : ∀ (vs : List Value) {b : World} (o : Nat), But g a b → But g a (b.setCells g o vs)
  | [], _, _, h => h
  | v :: vs, _, o, h => But.sets vs (o + 1) (h.put o v)
theorem StRow.there {w : World} {g : Nat} {f : Nat → Value} (h : StRow w g f) (o n : Nat) (hn : o + n ≤ 226) : w.there g o n := fun j hj => ⟨by rw [h.cell (by omega)]; rfl, h.frozen _⟩
theorem StRow.but {g h : Nat} {w w' : World} {f : Nat → Value} (hs : StRow w g f) (hb : But h w w') (hn : g ≠ h) : StRow w' g f := (hb.rest g hs.lt hn).trans hs
theorem StRow.next {g : Nat} {w w' : World} {f : Nat → Value} (hs : StRow w g f) (hb : Below w.heap.size w w') : StRow w' g f := (hb.block g hs.lt).trans hs

/- what lies in a state: the kind, the length, the rest, the constants, the narrow chain, the wide one -/
def stV (k n : Nat) (r : Nat → UInt8) (c : Nat → Nat) (i : Nat) : Value :=
  if i = 0 then .int .i64 (k : Int) else if i = 1 then .int .u64 (n : Int) else if i < 130 then .int .u8 ((r (i - 2)).toNat : Int) else if i < 210 then .int .u64 (coS k (i - 130) : Int) else if i < 218 then .int .u32 ((if 256 < k then 0 else c (i - 210) : Nat) : Int) else .int .u64 ((if 256 < k then c (i - 218) else 0 : Nat) : Int)
def StAt (w : World) (g k : Nat) (s : Ps) : Prop := StRow w g (stV k s.n s.r s.c)
theorem StAt.kind {w : World} {g k : Nat} {s : Ps} (h : StAt w g k s) : w.cell? ⟨g, 0, none⟩ = some (.int .i64 (k : Int)) := StRow.cell h (by decide)
theorem StAt.len {w : World} {g k : Nat} {s : Ps} (h : StAt w g k s) : w.cell? ⟨g, 1, none⟩ = some (.int .u64 (s.n : Int)) := StRow.cell h (by decide)
theorem StAt.rest {w : World} {g k : Nat} {s : Ps} (h : StAt w g k s) {i : Nat} (hi : i < 128) : w.cell? ⟨g, 2 + i, none⟩ = some (.int .u8 ((s.r i).toNat : Int)) := by
  rw [StRow.cell h (by omega)]
  unfold stV
  try dsimp only
  rw [if_neg (by omega), if_neg (by omega), if_pos (by omega), show 2 + i - 2 = i by omega]
theorem StAt.consts {w : World} {g k : Nat} {s : Ps} (h : StAt w g k s) {i : Nat} (hi : i < 80) : w.cell? ⟨g, 130 + i, none⟩ = some (.int .u64 (coS k i : Int)) := by
  rw [StRow.cell h (by omega)]
  unfold stV
  try dsimp only
  rw [if_neg (by omega), if_neg (by omega), if_neg (by omega), if_pos (by omega), show 130 + i - 130 = i by omega]
theorem StAt.narrow {w : World} {g k : Nat} {s : Ps} (h : StAt w g k s) (hk : ¬ 256 < k) {i : Nat} (hi : i < 8) : w.cell? ⟨g, 210 + i, none⟩ = some (.int .u32 (s.c i : Int)) := by
  rw [StRow.cell h (by omega)]
  unfold stV
  try dsimp only
  rw [if_neg (by omega), if_neg (by omega), if_neg (by omega), if_neg (by omega), if_pos (by omega), if_neg hk, show 210 + i - 210 = i by omega]
theorem StAt.wide {w : World} {g k : Nat} {s : Ps} (h : StAt w g k s) (hk : 256 < k) {i : Nat} (hi : i < 8) : w.cell? ⟨g, 218 + i, none⟩ = some (.int .u64 (s.c i : Int)) := by
  rw [StRow.cell h (by omega)]
  unfold stV
  try dsimp only
  rw [if_neg (by omega), if_neg (by omega), if_neg (by omega), if_neg (by omega), if_neg (by omega), if_pos hk, show 218 + i - 218 = i by omega]
theorem StAt.lt {w : World} {g k : Nat} {s : Ps} (h : StAt w g k s) : g < w.heap.size := StRow.lt h
theorem StAt.but {g h k : Nat} {w w' : World} {s : Ps} (hs : StAt w g k s) (hb : But h w w') (hn : g ≠ h) : StAt w' g k s := StRow.but hs hb hn
theorem StAt.next {g k : Nat} {w w' : World} {s : Ps} (hs : StAt w g k s) (hb : Below w.heap.size w w') : StAt w' g k s := StRow.next hs hb
/- loads of the whole rows -/
theorem Try.size61s : (Try.prog.info? 90).map (·.size) = some 8 := by kernel_rfl
theorem Try.size59s : (Try.prog.info? 88).map (·.size) = some 8 := by kernel_rfl
theorem Try.size50s : (Try.prog.info? 79).map (·.size) = some 80 := by kernel_rfl
theorem Try.size51s : (Try.prog.info? 80).map (·.size) = some 8 := by kernel_rfl
theorem StAt.load50 {w : World} {g k : Nat} {s : Ps} (h : StAt w g k s) : (Instr.loadAt 79 (.pointer (some ⟨g, 130, none⟩))).run Try.prog w = .ok (.agg (rowZ .u64 80 (fun j => (coS k j : Int)))) w :=
  run_loadAt_mid w g 130 79 (lZ .u64 80 (fun j => (coS k j : Int))) _ (lZ_range fun j hj => h.consts hj) Try.underlying79 rfl (by rw [Try.size50s, lZ_len])
theorem StAt.load61 {w : World} {g k : Nat} {s : Ps} (h : StAt w g k s) (hk : 256 < k) : (Instr.loadAt 90 (.pointer (some ⟨g, 218, none⟩))).run Try.prog w = .ok (.agg (rowZ .u64 8 (fun j => (s.c j : Int)))) w :=
  run_loadAt_mid w g 218 90 (lZ .u64 8 (fun j => (s.c j : Int))) _ (lZ_range fun j hj => h.wide hk hj) Try.underlying90 rfl (by rw [Try.size61s, lZ_len])
theorem StAt.load59 {w : World} {g k : Nat} {s : Ps} (h : StAt w g k s) (hk : ¬ 256 < k) : (Instr.loadAt 88 (.pointer (some ⟨g, 210, none⟩))).run Try.prog w = .ok (.agg (rowZ .u32 8 (fun j => (s.c j : Int)))) w :=
  run_loadAt_mid w g 210 88 (lZ .u32 8 (fun j => (s.c j : Int))) _ (lZ_range fun j hj => h.narrow hk hj) Try.underlying88 rfl (by rw [Try.size59s, lZ_len])
/- stores -/
theorem StAt.put_wide {w : World} {g k : Nat} {s : Ps} (h : StAt w g k s) (hk : 256 < k) (c : Nat → Nat) : StAt (w.setCells g 218 (lZ .u64 8 (fun j => (c j : Int)))) g k ⟨s.n, s.r, c⟩ := by
  refine (StRow.sets _ 218 h (by rw [lZ_len]; omega)).congr fun i hi => ?_
  rw [lZ_len]
  by_cases h1 : 218 ≤ i ∧ i < 218 + 8
  · rw [if_pos h1, List.getD_eq_getElem?_getD, lZ_get _ _ _ (show i - 218 < 8 by omega)]
    unfold stV
    rw [if_neg (by omega), if_neg (by omega), if_neg (by omega), if_neg (by omega), if_neg (by omega), if_pos hk]; rfl
  · rw [if_neg h1]
    unfold stV
    rw [if_pos hk, if_pos hk]
    split
    · rfl
    · split
      · rfl
      · split
        · rfl
        · split
          · rfl
          · split
            · rfl
            · omega
theorem StAt.put_narrow {w : World} {g k : Nat} {s : Ps} (h : StAt w g k s) (hk : ¬ 256 < k) (c : Nat → Nat) : StAt (w.setCells g 210 (lZ .u32 8 (fun j => (c j : Int)))) g k ⟨s.n, s.r, c⟩ := by
  refine (StRow.sets _ 210 h (by rw [lZ_len]; omega)).congr fun i hi => ?_
  rw [lZ_len]
  by_cases h1 : 210 ≤ i ∧ i < 210 + 8
  · rw [if_pos h1, List.getD_eq_getElem?_getD, lZ_get _ _ _ (show i - 210 < 8 by omega)]
    unfold stV
    rw [if_neg (by omega), if_neg (by omega), if_neg (by omega), if_neg (by omega), if_pos (by omega), if_neg hk]; rfl
  · rw [if_neg h1]
    unfold stV
    rw [if_neg hk, if_neg hk]
    split
    · rfl
    · split
      · rfl
      · split
        · rfl
        · split
          · rfl
          · split
            · omega
            · rfl
/- one word of a chain -/
theorem StAt.one_wide {w : World} {g k : Nat} {s : Ps} (h : StAt w g k s) (hk : 256 < k) {j : Nat} (hj : j < 8) (v : Nat) : StAt (w.setCell ⟨g, 218 + j, none⟩ (.int .u64 (v : Int))) g k ⟨s.n, s.r, fun i => if i = j then v else s.c i⟩ := by
  refine (StRow.set h (i := 218 + j) (by omega) _).congr fun i hi => ?_
  unfold stV
  try dsimp only
  by_cases h1 : i = 218 + j
  · subst h1
    rw [if_pos rfl, if_neg (by omega), if_neg (by omega), if_neg (by omega), if_neg (by omega), if_neg (by omega), if_pos hk, if_pos (by omega)]
  · rw [if_neg h1, if_pos hk, if_pos hk]
    split
    · rfl
    · split
      · rfl
      · split
        · rfl
        · split
          · rfl
          · split
            · rfl
            · rw [if_neg (by omega)]
theorem StAt.one_narrow {w : World} {g k : Nat} {s : Ps} (h : StAt w g k s) (hk : ¬ 256 < k) {j : Nat} (hj : j < 8) (v : Nat) : StAt (w.setCell ⟨g, 210 + j, none⟩ (.int .u32 (v : Int))) g k ⟨s.n, s.r, fun i => if i = j then v else s.c i⟩ := by
  refine (StRow.set h (i := 210 + j) (by omega) _).congr fun i hi => ?_
  unfold stV
  try dsimp only
  by_cases h1 : i = 210 + j
  · subst h1
    rw [if_pos rfl, if_neg (by omega), if_neg (by omega), if_neg (by omega), if_neg (by omega), if_pos (by omega), if_neg hk, if_pos (by omega)]
  · rw [if_neg h1, if_neg hk, if_neg hk]
    split
    · rfl
    · split
      · rfl
      · split
        · rfl
        · split
          · rfl
          · split
            · rw [if_neg (by omega)]
            · rfl
/- a byte of the rest, the length -/
theorem StAt.one_rest {w : World} {g k : Nat} {s : Ps} (h : StAt w g k s) {j : Nat} (hj : j < 128) (x : UInt8) : StAt (w.setCell ⟨g, 2 + j, none⟩ (.int .u8 (x.toNat : Int))) g k ⟨s.n, fun i => if i = j then x else s.r i, s.c⟩ := by
  refine (StRow.set h (i := 2 + j) (by omega) _).congr fun i hi => ?_
  unfold stV
  try dsimp only
  by_cases h1 : i = 2 + j
  · subst h1
    rw [if_pos rfl, if_neg (by omega), if_neg (by omega), if_pos (by omega), if_pos (by omega)]
  · rw [if_neg h1]
    split
    · rfl
    · split
      · rfl
      · split
        · rw [if_neg (by omega)]
        · rfl
theorem StAt.one_len {w : World} {g k : Nat} {s : Ps} (h : StAt w g k s) (n : Nat) : StAt (w.setCell ⟨g, 1, none⟩ (.int .u64 (n : Int))) g k ⟨n, s.r, s.c⟩ := by
  refine (StRow.set h (i := 1) (by omega) _).congr fun i hi => ?_
  unfold stV
  try dsimp only
  by_cases h1 : i = 1
  · subst h1; rfl
  · rw [if_neg h1, if_neg h1, if_neg h1]
theorem StAt.congr {w : World} {g k : Nat} {s : Ps} (h : StAt w g k s) (s' : Ps) (hn : s.n = s'.n) (hr : ∀ i, i < 128 → s.r i = s'.r i) (hc : ∀ i, i < 8 → s.c i = s'.c i) : StAt w g k s' := by
  refine StRow.congr h fun i hi => ?_
  unfold stV
  try dsimp only
  rw [hn]
  split
  · rfl
  · split
    · rfl
    · split
      · rw [hr _ (by omega)]
      · split
        · rfl
        · split
          · rw [hc _ (by omega)]
          · rw [hc _ (by omega)]
end Go.Proofs.Ytnldpofljeodiaa
