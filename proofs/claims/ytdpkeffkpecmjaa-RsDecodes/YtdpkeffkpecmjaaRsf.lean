/- The decoder's smaller parts; what it answers of a nil code. -/
import Derived.Test.YtdpkeffkpecmjaaRse
import Derived.WalkMore
import Derived.ScopeJumps
namespace Go.Proofs.Ytdpkeffkpecmjaa
open Go.RowKit
set_option linter.unusedVariables false

theorem jump_ret {l : Nat} {J : Act → World → Prop} {Q : Exit → Act → World → Prop} {a : Act} {w : World} (h : Q .ret a w) : Exit.jump l J Q .ret a w := h
/-- What holds where the decoder ends: its three results, whatever else lies in its frame. -/
def EndM (p v l : Value) (R : Value → Value → Int → World → Prop) (a : Act) (w : World) : Prop := ∃ m6 l7 e8 u9 u10 u11 u12 u13 u14 u15 u16 u17 u18 u19 u20 u21 u22 u23 u24 u25 u26 u27 u28 u29 u30 u31 u32 u33 u34 u35 u36 u37 u38 u39 u40 u41 u42 u43 u44 u45 u46 u47 u48 u49 u50 u51 u52 u53 u54 u55 u56 u57 u58 u59 u60 u61, a = { tmps := #[p, v, l, undef, undef, undef, m6, l7, .int .i64 e8, u9, u10, u11, u12, u13, u14, u15, u16, u17, u18, u19, u20, u21, u22, u23, u24, u25, u26, u27, u28, u29, u30, u31, u32, u33, u34, u35, u36, u37, u38, u39, u40, u41, u42, u43, u44, u45, u46, u47, u48, u49, u50, u51, u52, u53, u54, u55, u56, u57, u58, u59, u60, u61], defers := [] } ∧ R m6 l7 e8 w
set_option maxRecDepth 100000 in
set_option maxHeartbeats 800000 in
theorem mend_nil (v l : Value) (w : World) : Calls Try.prog 47 #[.pointer none, v, l] w fun e w' => e = .returned (.tuple #[.slice none 0 0, .slice none 0 0, .int .i64 2]) ∧ Below w.heap.size w w' := by
  have HS := hidD (syndromes_nil v w)
  go_enter Try.func47, Try.ntmps47
  go_wp2_with fail
  refine wp_scope_jumps 0 (EndM (.pointer none) v l (fun _ _ e8 w' => e8 = 2 ∧ Below w.heap.size w w')) (fun _ _ => 0) rfl ?_ ?_
  · go_wp2_with (go_at_call 14; refine HS.out.mono ?_; rintro e w2 ⟨rfl, hb2⟩; have HB2 := hidD hb2; clear hb2)
    go_step3
    refine ⟨rfl, ?_⟩
    (repeat apply Exists.intro)
    exact ⟨rfl, rfl, HB2.out⟩
  · rintro a' w' ⟨m6, l7, e8, u9, u10, u11, u12, u13, u14, u15, u16, u17, u18, u19, u20, u21, u22, u23, u24, u25, u26, u27, u28, u29, u30, u31, u32, u33, u34, u35, u36, u37, u38, u39, u40, u41, u42, u43, u44, u45, u46, u47, u48, u49, u50, u51, u52, u53, u54, u55, u56, u57, u58, u59, u60, u61, rfl, rfl, hb⟩
    have HB := hidD hb
    clear hb
    go_wp2_with fail
    refine jump_ret ?_
    refine bodyPost_ret (v := .tuple #[.slice none 0 0, .slice none 0 0, .int .i64 2]) (by simp [results, Try.results47, go_sem]) rfl ?_
    exact ⟨rfl, HB.out⟩
set_option maxRecDepth 100000 in
set_option maxHeartbeats 800000 in
theorem decode_nil (v l : Value) (w : World) : Calls Try.prog 21 #[.pointer none, v, l] w fun e w' => e = .returned (.tuple #[.slice none 0 0, .slice none 0 0, .int .i64 2]) ∧ Below w.heap.size w w' := by
  have HS := hidD (mend_nil v l w)
  go_enter Try.func21, Try.ntmps21
  go_wp2_with (go_at_call 47; refine HS.out.mono ?_; rintro e w2 ⟨rfl, hb2⟩; have HB2 := hidD hb2; clear hb2)
  refine bodyPost_ret (v := .tuple #[.slice none 0 0, .slice none 0 0, .int .i64 2]) (by simp [results, Try.results21, go_sem]) rfl ?_
  exact ⟨rfl, HB2.out⟩
set_option maxRecDepth 100000 in
set_option maxHeartbeats 800000 in
theorem locator_nil (v l : Value) (w : World) : Calls Try.prog 23 #[.pointer none, v, l] w fun e w' => e = .returned (.tuple #[.slice none 0 0, .int .i64 2]) ∧ Below w.heap.size w w' := by
  have HS := hidD (mend_nil v l w)
  go_enter Try.func23, Try.ntmps23
  go_wp2_with (go_at_call 47; refine HS.out.mono ?_; rintro e w2 ⟨rfl, hb2⟩; have HB2 := hidD hb2; clear hb2)
  refine bodyPost_ret (v := .tuple #[.slice none 0 0, .int .i64 2]) (by simp [results, Try.results23, go_sem]) rfl ?_
  exact ⟨rfl, HB2.out⟩
set_option maxRecDepth 100000 in
set_option maxHeartbeats 800000 in
theorem degreeOf_any (a : Option Addr) (n cap : Nat) (h : n ≤ 9223372036854775807) (w : World) : Calls Try.prog 75 #[.slice a n cap] w fun e w' => e = .returned (.int .i64 ((n : Int) - 1)) ∧ Below w.heap.size w w' := by
  have HW : Hid (Below w.heap.size w w) := Below.refl _ _
  go_enter Try.func75, Try.ntmps75
  go_wp2_with fail
  go_ret
  exact ⟨rfl, HW.out⟩

/-- The polynomial below x to the p. -/
def lowS (p : Nat) (l : List UInt8) : List UInt8 := trimS (l.take p)
theorem plus_none (l : List UInt8) : trimS (plusS l []) = trimS l := trim_ext fun k => by rw [cf_plus]; exact UInt8.xor_zero
set_option maxRecDepth 100000 in
set_option maxHeartbeats 1600000 in
theorem low_any {c p f : Nat} (l : List UInt8) (hl : l.length ≤ 281474976710656) (v : Value) (w : World) (hc : CdAt w c p f) (hv : SlAt w v l) :
    Calls Try.prog 74 #[.pointer (some ⟨c, 0, none⟩), v] w fun e w' => ∃ v', e = .returned v' ∧ SlAt w' v' (lowS p l) ∧ Below w.heap.size w w' := by
  obtain ⟨⟨a, ca, rfl, hca1, hca2⟩, hpb⟩ := hv
  obtain ⟨gv, b, hg2, hg3, hg4, hg5⟩ := hc.rest
  have h0 := hc.c0
  have HCL := hidD hc.lt
  have hmi : min (l.length : Int) (p : Int) = ((min l.length p : Nat) : Int) := by omega
  have hmc : min l.length p ≤ ca := by omega
  have hmx : min l.length p ≤ 9223372036854775807 := by omega
  have HB : Hid (SlAt w (.slice a (min l.length p) ca) (l.take p)) := by
    have h := hpb.take (n := min l.length p) (by omega)
    have he : l.take (min l.length p) = l.take p := by
      rcases Nat.le_total l.length p with h | h
      · rw [Nat.min_eq_left h, List.take_length, List.take_of_length_le h]
      · rw [Nat.min_eq_right h]
    rw [he] at h
    exact ⟨⟨_, _, by rw [List.length_take, Nat.min_comm], by rw [List.length_take]; omega, hca2⟩, h⟩
  have HP : Hid (∀ (v : Value) (w : World), SlAt w v (l.take p) → Calls Try.prog 82 #[.pointer (some ⟨b, 0, none⟩), v, .slice none 0 0] w fun e w' => ∃ v', e = .returned v' ∧ SlAt w' v' (lowS p l) ∧ Below w.heap.size w w') := fun v w hv => by
    have := plus_any (b := b) (l.take p) [] (by rw [List.length_take]; omega) (by simp) v (.slice none 0 0) w hv (SlAt.nil w)
    rw [plus_none] at this
    exact this
  have HKK : Hid (∀ wB, Below w.heap.size w wB → ∃ i : KB w [c], wB = i.v) := fun wB hb => ⟨⟨wB, fun x hx => by
    rw [show x = c by simpa using hx]
    exact hb.block _ HCL.out⟩, rfl⟩
  have f0 : ∀ i : KB w [c], i.v.cell? ⟨c, 0, none⟩ = some (.int .i64 p) := fun i => (i.cell (b := c) (by simp) _).trans h0
  have f3 : ∀ i : KB w [c], i.v.cell? ⟨c, 3, none⟩ = some (.pointer (some ⟨b, 0, none⟩)) := fun i => (i.cell (b := c) (by simp) _).trans hg3
  have HDR : Hid (Below w.heap.size w w.drew) := (Below.refl _ _).drew
  clear hpb hg4 hg5 hc hmi
  generalize lowS p l = LL at *
  by_cases hle : l.length ≤ p
  · rw [Nat.min_eq_left hle] at HB hmc hmx
    have hle' : (l.length : Int) ≤ p := by omega
    generalize l.length = n at *
    go_enter Try.func74, Try.ntmps74
    go_wp2_with fail
    refine wp_region_seg [0, 0, 0, 0, 0, 0, 0, 0, 0, 0, 0, 1, 2, 99, 99] 1 13 [c] (by kernel_rfl) (by kernel_rfl) (by kernel_rfl) (by kernel_rfl) (by kernel_rfl) (by kernel_rfl) (by kernel_rfl) (by kernel_rfl) (fun _ _ _ _ _ h => h) ?_
    simp only [SegW, pk, Nat.reduceMul, Nat.reduceAdd, Nat.reduceBEq, cond_true, cond_false]
    repeat (go_big_quiet_step (fail))
    refine wpQuiet_nil ?_
    go_wp2_with fail
    refine ⟨HKK.out _ HDR.out, ?_⟩
    repeat (go_big_quiet_step (fail))
    refine wpQuiet_nil ?_
    go_wp2_with (go_at_call 82; refine (HP.out _ _ (HB.out.next HDR.out)).mono ?_; rintro e w6 ⟨v6, rfl, hs6, hb6⟩)
    go_ret
    exact ⟨_, rfl, hs6, Below.next HDR.out hb6⟩
  · rw [Nat.min_eq_right (by omega)] at HB hmc hmx
    have hle' : (p : Int) < l.length := by omega
    generalize l.length = n at *
    go_enter Try.func74, Try.ntmps74
    go_wp2_with fail
    refine wp_region_seg [0, 0, 0, 0, 0, 0, 0, 0, 0, 0, 0, 1, 2, 99, 99] 1 13 [c] (by kernel_rfl) (by kernel_rfl) (by kernel_rfl) (by kernel_rfl) (by kernel_rfl) (by kernel_rfl) (by kernel_rfl) (by kernel_rfl) (fun _ _ _ _ _ h => h) ?_
    simp only [SegW, pk, Nat.reduceMul, Nat.reduceAdd, Nat.reduceBEq, cond_true, cond_false]
    repeat (go_big_quiet_step (fail))
    refine wpQuiet_nil ?_
    go_wp2_with fail
    refine ⟨HKK.out _ HDR.out, ?_⟩
    repeat (go_big_quiet_step (fail))
    refine wpQuiet_nil ?_
    go_wp2_with (go_at_call 82; refine (HP.out _ _ (HB.out.next HDR.out)).mono ?_; rintro e w6 ⟨v6, rfl, hs6, hb6⟩)
    go_ret
    exact ⟨_, rfl, hs6, Below.next HDR.out hb6⟩
end Go.Proofs.Ytdpkeffkpecmjaa
