/- A port with nothing attached; what a nil memory answers. -/
import Derived.Test.YtjnfnihhihncmaaMmh
namespace Go.Proofs.Ytjnfnihhihncmaa
open Go.RowKit
set_option linter.unusedVariables false

set_option maxRecDepth 100000 in
set_option maxHeartbeats 1600000 in
theorem read_open {w : World} {k : Mk} {Z : Nat → Nat × Nat} {x y : Int} (h : MeAt w k Z x y) (a : Int) (f t : Int) (hq : rgo k.R a = ((f, t, 3), 0)) (n : Nat) (hm : w.heap[k.p]? = some (.map #[] n)) (kl : Lit) (hk : keyOf Try.prog 35 (.agg #[.int .i64 f, .int .i64 t, .int .i64 3]) = some kl) :
    Calls Try.prog 16 #[.pointer (some ⟨k.m, 0, none⟩), .int .i64 a] w fun e w' => e = .returned (.tuple #[.int .u8 255, .int .i64 0]) ∧ Below w.heap.size w w' := by
  have HK : Hid (Calls Try.prog 48 #[.pointer (some ⟨k.m, 0, none⟩), .int .i64 a] w fun e w' => e = .returned (.tuple #[.agg #[.int .i64 f, .int .i64 t, .int .i64 3], .int .i64 0]) ∧ Below w.heap.size w w') := reg_next h a (Below.refl _ _) hq
  have HPR : Hid (∀ r w, Calls Try.prog 49 #[.agg #[.nilFunc, .nilFunc], .int .i64 r] w fun e w' => e = .returned (.int .u8 255) ∧ Below w.heap.size w w') := fun r w => portRead_nil .nilFunc r w
  have HM := hidD h
  have HMP := hidD hm
  have HKL := hidD hk
  clear h hq hm hk
  go_enter Try.func16, Try.ntmps16
  go_wp2_with (go_at_call 48; refine HK.out.mono ?_; rintro e w2 ⟨rfl, hb2⟩
               obtain ⟨g0, g1, g2⟩ := rg_cells w2 f t 3
               have HB2 := hidD (hb2.trans (((Below.refl _ _).alloc (Nat.le_refl _) (.cells #[.int .i64 f, .int .i64 t, .int .i64 3] 35)).mono hb2.size))
               have hs2 : w.heap.size ≤ w2.heap.size := hb2.size
               have hl2 : w2.heap.size < (w2.alloc (.cells #[.int .i64 f, .int .i64 t, .int .i64 3] 35)).heap.size := row_lt (heap_alloc_last _ _); clear hb2)
  have HM3 := hidD (HM.out.next HB2.out)
  have HP3 := hidD ((HB2.out.block _ (row_lt HMP.out)).trans HMP.out)
  generalize World.alloc _ _ = w3 at *
  have q1 : ∀ i : BW w3, i.v.cell? ⟨k.m, 1, none⟩ = some (.map (some k.p)) := fun i => (i.cell HM3.out.lt.1).trans HM3.out.cells.2.1
  have q2 : ∀ i : BW w3, i.v.cell? ⟨w2.heap.size, 0, none⟩ = some (.int .i64 f) := fun i => (i.cell hl2).trans g0
  have q3 : ∀ i : BW w3, i.v.cell? ⟨w2.heap.size, 1, none⟩ = some (.int .i64 t) := fun i => (i.cell hl2).trans g1
  have q4 : ∀ i : BW w3, i.v.cell? ⟨w2.heap.size, 2, none⟩ = some (.int .i64 3) := fun i => (i.cell hl2).trans g2
  have q5 : ∀ i : BW w3, (Instr.lookup 82 (.map (some k.p)) (.agg #[.int .i64 f, .int .i64 t, .int .i64 3]) false).run Try.prog i.v = .ok (.agg #[.nilFunc, .nilFunc]) i.v := fun i => look_empty ((i.below.block _ (row_lt HP3.out)).trans HP3.out) HKL.out
  refine wp_region_below (by kernel_rfl) (by kernel_rfl) ?_
  repeat (go_big_quiet_step ((go_at_call 49; exact Calls.below_of (HPR.out _ _))))
  refine wpQuiet_nil ?_
  intro i
  have HBI := hidD (HB2.out.trans (i.below.mono HB2.out.size))
  go_wp2_with fail
  refine bodyPost_ret (v := .tuple #[.int .u8 255, .int .i64 0]) (by simp [results, Try.results16, go_sem]) rfl ?_
  exact ⟨rfl, HBI.out⟩
set_option maxRecDepth 100000 in
set_option maxHeartbeats 800000 in
theorem attach_nil (a : Int) (w : World) : Calls Try.prog 24 #[.pointer none, .int .i64 a, .nilFunc, .nilFunc] w fun e w' => e = .returned (.int .i64 2) ∧ Below w.heap.size w w' := by
  have HK : Hid (∀ w, Calls Try.prog 48 #[.pointer none, .int .i64 a] w fun e w' => e = .returned (.tuple #[.agg #[.int .i64 0, .int .i64 0, .int .i64 0], .int .i64 2]) ∧ Below w.heap.size w w') := fun w => regionOf_nil a w
  go_enter Try.func24, Try.ntmps24
  go_wp2_with (go_at_call 48; refine (HK.out _).mono ?_; rintro e w2 ⟨rfl, hb2⟩
               have HB2 := hidD (hb2.trans (((Below.refl _ _).alloc (Nat.le_refl _) (.cells #[.int .i64 0, .int .i64 0, .int .i64 0] 35)).mono hb2.size)); clear hb2)
  go_ret
  exact ⟨rfl, HB2.out⟩
set_option maxRecDepth 100000 in
theorem load_nil (v : Value) (w : World) : Calls Try.prog 21 #[.pointer none, v] w fun e w' => e = .returned (.int .i64 2) ∧ Below w.heap.size w w' := by
  go_enter Try.func21, Try.ntmps21
  go_wp2_with fail
  go_ret
  exact ⟨rfl, Below.refl _ _⟩
set_option maxRecDepth 100000 in
theorem scrub_nil (w : World) : Calls Try.prog 19 #[.pointer none] w fun e w' => e = .returned (.tuple #[.int .i64 0, .int .i64 0]) ∧ Below w.heap.size w w' := by
  go_enter Try.func19, Try.ntmps19
  go_wp2_with fail
  refine bodyPost_ret (v := .tuple #[.int .i64 0, .int .i64 0]) (by simp [results, Try.results19, go_sem]) rfl ?_
  exact ⟨rfl, Below.refl _ _⟩
set_option maxRecDepth 100000 in
theorem regions_nil (w : World) : Calls Try.prog 25 #[.pointer none] w fun e w' => e = .returned (.slice none 0 0) ∧ Below w.heap.size w w' := by
  go_enter Try.func25, Try.ntmps25
  go_wp2_with fail
  refine bodyPost_ret (v := .slice none 0 0) (by simp [results, Try.results25, go_sem]) rfl ?_
  exact ⟨rfl, Below.refl _ _⟩
set_option maxRecDepth 100000 in
theorem same_nil (w : World) : Calls Try.prog 15 #[.pointer none, .pointer none] w fun e w' => e = .returned (.bool true) ∧ Below w.heap.size w w' := by
  go_enter Try.func15, Try.ntmps15
  go_wp2_with fail
  go_ret
  exact ⟨rfl, Below.refl _ _⟩
theorem peek_nil (a : Int) (w : World) : Calls Try.prog 17 #[.pointer none, .int .i64 a] w fun e w' => e = .returned (.tuple #[.int .u8 0, .int .i64 2]) ∧ Below w.heap.size w w' :=
  peek_err (.pointer none) a 2 (by decide) w fun w1 _ => cell_nil a w1
theorem read_nil (a : Int) (w : World) : Calls Try.prog 16 #[.pointer none, .int .i64 a] w fun e w' => e = .returned (.tuple #[.int .u8 0, .int .i64 2]) ∧ Below w.heap.size w w' :=
  read_err (.pointer none) a 0 0 0 2 (by decide) w (regionOf_nil a w)
theorem write_nil (a : Int) (b : Nat) (w : World) : Calls Try.prog 20 #[.pointer none, .int .i64 a, .int .u8 (b : Int)] w fun e w' => e = .returned (.int .i64 2) ∧ Below w.heap.size w w' :=
  write_err (.pointer none) a b 0 0 0 2 (by decide) w (regionOf_nil a w)
end Go.Proofs.Ytjnfnihhihncmaa
