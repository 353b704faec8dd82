/- What Residue and Table of the document, and sameLongs and sameWords of the statements, answer. -/
import Derived.Test.YtjhaaphgaplhlaaRap
namespace Go.Proofs.Ytjhaaphgaplhlaa
open Go.RowKit
set_option linter.unusedVariables false

set_option maxRecDepth 100000 in
set_option maxHeartbeats 400000 in
theorem refResidue_none (m : Mw) (hm : MwOk m) (z : Int) (hz : z ≠ 0) (ha : ∀ w, Calls Try.prog 33 #[m.v, .slice none 0 0] w fun e w' => e = .returned (.tuple #[.slice none 0 0, .int .i64 z]) ∧ Below w.heap.size w w') (w : World) : Calls Try.prog 35 #[m.v] w fun e w' => e = .returned (.tuple #[.int .u64 0, .int .i64 z]) ∧ Below w.heap.size w w' := by
  have HA := hidD ha
  have HB : Hid (∀ o, Below w.heap.size w (w.alloc o)) := fun o => (Below.refl w.heap.size w).alloc (Nat.le_refl _) o
  clear hm ha
  have hzi : ¬ z = 0 := hz
  obtain ⟨nm, W, P, I, inn, out, X⟩ := m
  simp only [Mw.v] at *
  go_enter Try.func35, Try.ntmps35
  go_wp2_with (go_at_call 33; refine (HA.out _).mono ?_; rintro e w2 ⟨rfl, hb2⟩)
  refine bodyPost_ret (v := .tuple #[.int .u64 0, .int .i64 z]) (by simp [results, Try.results35, go_sem]) rfl ⟨rfl, Below.next (HB.out _) hb2⟩

set_option maxRecDepth 100000 in
set_option maxHeartbeats 400000 in
theorem refResidue_some (m : Md) (hm : MdOk m) (h8 : m.w % 8 = 0) (hio : m.inn = m.out) (w : World) : Calls Try.prog 35 #[m.v] w fun e w' => e = .returned (.tuple #[.int .u64 (resS m : Nat), .int .i64 0]) ∧ Below w.heap.size w w' := by
  have HAP := hidD (fun w => refAppend_some m hm h8 hio [] (by simp) _ w (nil_by w))
  have HS := hidD (fun sl w' h => refSum_some m hm (appS m []) (by rw [appS_length]; have := hm.hi; simp; omega) sl w' h)
  have hx : bits .xor .u64 (sumS m (appS m []) : Int) (m.X : Int) = ((resS m : Nat) : Int) := u64_xor_nat _ _ (Nat.lt_of_lt_of_le (sum_lt hm _) (pow64 hm.hi)) (Nat.lt_of_lt_of_le hm.X (pow64 hm.hi))
  have HX := hidD (MdAt.new m w 36)
  have HB0 : Hid (Below w.heap.size w (w.alloc (.cells m.cells 36))) := (Below.refl w.heap.size w).alloc (Nat.le_refl _) _
  have HSZ : Hid (w.heap.size < (w.alloc (.cells m.cells 36)).heap.size) := by show _ < _; simp
  clear hm h8 hio
  generalize resS m = R at *
  generalize sumS m (appS m []) = S at *
  generalize appS m [] = AP at *
  obtain ⟨nm, ww, P, I, inn, out, X⟩ := m
  simp only [Md.v, Md.cells] at *
  go_enter Try.func35, Try.ntmps35
  go_wp2_with (first
    | (go_at_call 33; refine (HAP.out _).mono ?_; rintro e w1 ⟨v, rfl, hown, hb1⟩; obtain ⟨k0, k1, k2, k3, k4, k5, k6⟩ := HX.out.below hb1 HSZ.out; have HX1 := hidD (HX.out.below hb1 HSZ.out); have HG1 := hidD (Nat.lt_of_lt_of_le HSZ.out hb1.size); have HB1 := hidD (Below.next HB0.out hb1); have HR1 := hidD (row_by hown); clear hb1 hown)
    | (go_at_call 19; refine (HS.out _ _ HR1.out).mono ?_; rintro e w2 ⟨rfl, hb2⟩; obtain ⟨q0, q1, q2, q3, q4, q5, q6⟩ := HX1.out.below hb2 HG1.out; have HB2 := hidD (Below.next HB1.out hb2); clear hb2))
  refine bodyPost_ret (v := .tuple #[.int .u64 R, .int .i64 0]) (by simp [results, Try.results35, go_sem]) rfl ⟨rfl, HB2.out⟩

theorem Try.info33 : (Try.prog.info? 33).map (fun i => (i.zero, i.size, i.bytes)) = some (some (.int .u64 0), 1, 8) := by kernel_rfl
def rangeC (kd : IntKind) (f : Nat → Nat) (k : Nat) : List Value := (List.range k).map fun i => .int kd (f i : Int)
theorem rangeC_next (kd : IntKind) (f : Nat → Nat) (k : Nat) : rangeC kd f (k + 1) = rangeC kd f k ++ [.int kd (f k : Int)] := by simp [rangeC, List.range_succ]
/-- A slice value reads as these numbers. -/
def NsAt (w : World) (kd : IntKind) (sl : Value) (n : Nat) (f : Nat → Nat) : Prop := ∃ a cap, sl = .slice a n cap ∧ ∀ k, k < n → ∃ g off, a = some ⟨g, off, none⟩ ∧ g < w.heap.size ∧ w.cell? ⟨g, off + k, none⟩ = some (.int kd (f k : Int))
theorem NsAt.below {w w' : World} {kd : IntKind} {sl : Value} {n : Nat} {f : Nat → Nat} (h : NsAt w kd sl n f) (hb : Below w.heap.size w w') : NsAt w' kd sl n f := by
  obtain ⟨a, cap, rfl, hc⟩ := h
  refine ⟨a, cap, rfl, fun k hk => ?_⟩
  obtain ⟨g, off, rfl, hg, hcl⟩ := hc k hk
  exact ⟨g, off, rfl, Nat.lt_of_lt_of_le hg hb.size, by rw [hb.cell (p := ⟨g, off + k, none⟩) hg]; exact hcl⟩
theorem NsAt.nil (w : World) (kd : IntKind) (f : Nat → Nat) : NsAt w kd (.slice none 0 0) 0 f := ⟨none, 0, rfl, fun k hk => by omega⟩
theorem NsAt.fill {w : World} {kd : IntKind} {g : Nat} {t : TypeId} {f : Nat → Nat} (h : w.heap[g]? = some (.cells (fillC kd f 256) t (0, 0))) : NsAt w kd (.slice (some ⟨g, 0, none⟩) 256 256) 256 f :=
  ⟨_, _, rfl, fun k hk => ⟨g, 0, rfl, row_lt h, by rw [Nat.zero_add, cell_of_row _ _ _ _ _ _ h]; exact fill_at _ _ k hk⟩⟩
theorem NsAt.row {w : World} {kd : IntKind} {base e n : Nat} {v : Value} {f : Nat → Nat} (h : w.ownsRow base e 1 v n (rangeC kd f n)) : NsAt w kd v n f := by
  rcases h.2 with ⟨rfl, h0⟩ | ⟨g, cap, cur, rfl, hb, hg, _⟩
  · subst h0; exact NsAt.nil _ _ _
  · refine ⟨_, _, rfl, fun k hk => ⟨g, 0, rfl, row_lt hg, ?_⟩⟩
    have := h.cells (g := g) rfl k (.int kd (f k : Int)) (by unfold rangeC; rw [List.getElem?_map, List.getElem?_range hk]; rfl)
    rwa [show (⟨g, 0, none⟩ : Addr).add k = ⟨g, 0 + k, none⟩ from Addr.add_lit ..] at this

set_option maxRecDepth 100000 in
set_option maxHeartbeats 400000 in
theorem refTable_none (m : Mw) (hm : MwOk m) (hv : ¬ m.Valid) (w : World) : Calls Try.prog 30 #[m.v] w fun e w' => e = .returned (.tuple #[.slice none 0 0, .int .i64 40]) ∧ Below w.heap.size w w' := by
  have HV := hidD (fun w => refValid_any m hm false (by simp [hv]) w)
  clear hv hm
  obtain ⟨nm, W, P, I, inn, out, X⟩ := m
  simp only [Mw.v] at *
  have HB : Hid (∀ o, Below w.heap.size w (w.alloc o)) := fun o => (Below.refl w.heap.size w).alloc (Nat.le_refl _) o
  go_enter Try.func30, Try.ntmps30
  go_wp2_with (go_at_call 26; refine (HV.out _).mono ?_; rintro e w2 ⟨rfl, hb2⟩)
  refine bodyPost_ret (v := .tuple #[.slice none 0 0, .int .i64 40]) (by simp [results, Try.results30, go_sem]) rfl ⟨rfl, Below.next (HB.out _) hb2⟩
set_option maxRecDepth 100000 in
set_option maxHeartbeats 400000 in
theorem table_none (m : Mw) (hm : MwOk m) (hv : ¬ m.Valid) (w : World) : Calls Try.prog 29 #[m.v] w fun e w' => e = .returned (.tuple #[.slice none 0 0, .int .i64 40]) ∧ Below w.heap.size w w' := by
  have HV := hidD (fun w => valid_any m hm false (by simp [hv]) w)
  clear hv hm
  obtain ⟨nm, W, P, I, inn, out, X⟩ := m
  simp only [Mw.v] at *
  have HB : Hid (∀ o, Below w.heap.size w (w.alloc o)) := fun o => (Below.refl w.heap.size w).alloc (Nat.le_refl _) o
  go_enter Try.func29, Try.ntmps29
  go_wp2_with (go_at_call 25; refine (HV.out _).mono ?_; rintro e w2 ⟨rfl, hb2⟩)
  refine bodyPost_ret (v := .tuple #[.slice none 0 0, .int .i64 40]) (by simp [results, Try.results29, go_sem]) rfl ⟨rfl, Below.next (HB.out _) hb2⟩

set_option maxRecDepth 100000 in
set_option maxHeartbeats 1000000 in
theorem refTable_some (m : Md) (hm : MdOk m) (w : World) : Calls Try.prog 30 #[m.v] w fun e w' => ∃ v, e = .returned (.tuple #[v, .int .i64 0]) ∧ w'.ownsRow w.heap.size 33 1 v 256 (rangeC .u64 (tabS m) 256) ∧ Below w.heap.size w w' := by
  have HV : Hid (∀ w, Calls Try.prog 26 #[m.v] w fun e w' => e = .returned (.bool true) ∧ Below w.heap.size w w') := fun w => refValid_any ⟨m.name, m.w, m.P, m.I, m.inn, m.out, m.X⟩ hm.raw true (by simp [Md.valid m hm]) w
  have HST : Hid (∀ (b : Nat) (hb : b < 256) (w : World), Calls Try.prog 53 #[m.v, .int .u64 0, .int .u8 (b : Int)] w fun e w' => e = .returned (.int .u64 (tabS m b : Nat)) ∧ Below w.heap.size w w') := fun b hb w => step_any m hm 0 (Nat.two_pow_pos _) b hb w
  have HA := hidD (MdAt.new m w 36)
  have HB0 : Hid (Below w.heap.size w (w.alloc (.cells m.cells 36))) := (Below.refl w.heap.size w).alloc (Nat.le_refl _) _
  have HSZ : Hid (w.heap.size < (w.alloc (.cells m.cells 36)).heap.size) := by show _ < _; simp
  clear hm
  generalize tabS m = f at *
  obtain ⟨i0, hi, hz0, hz1, hz2⟩ := info_parts Try.info33
  obtain ⟨nm, ww, P, I, inn, out, X⟩ := m
  simp only [Md.v, Md.cells] at *
  go_enter Try.func30, Try.ntmps30
  go_wp2_with (go_at_call 26; refine (HV.out _).mono ?_; rintro e w2 ⟨rfl, hb2⟩; have HX2 := hidD (HA.out.below hb2 HSZ.out); have HG2 := hidD (Nat.lt_of_lt_of_le HSZ.out hb2.size); have HB2 := hidD (Below.next HB0.out hb2); clear hb2)
  go_loopw [4, 5] (fun o i wr => ∃ k : Nat, k ≤ 256 ∧ i = .int .i64 k ∧ wr.ownsRow w2.heap.size 33 1 o k (rangeC .u64 f k) ∧ Below w2.heap.size w2 wr) (fun _ i _ => 256 - (intOf i).toNat)
  case atStart => exact ⟨0, Nat.zero_le _, rfl, World.ownsRow_nil _ _ _ _, Below.refl _ _⟩
  case round =>
    obtain ⟨k, hk, rfl, hown, hbel⟩ := hrel
    obtain ⟨ad, cd, hde⟩ := row_shape hown
    subst hde
    have HOW := hidD hown
    have HBL := hidD hbel
    obtain ⟨k0, k1, k2, k3, k4, k5, k6⟩ := HX2.out.below hbel HG2.out
    simp only at k0 k1 k2 k3 k4 k5 k6
    have hwz := hbel.size
    clear hown
    by_cases hlt : k < 256
    · have hlti : (k : Int) < 256 := by omega
      have HCB := hidD (fun w => HST.out k hlt w)
      have HRN := hidD (rangeC_next .u64 f k)
      clear hbel
      generalize f k = F at *
      go_wp2_with (first
        | (go_at_call 53; refine (HCB.out _).mono ?_; rintro e w3 ⟨rfl, hb3⟩; have HB3 := hidD (Below.next HBL.out hb3); have HO3 := hidD (row_below HOW.out hb3); have hwz3 := hb3.size; clear hb3)
        | (at_builtin; refine wpList_append_own _ rfl _ _ 56 rfl w2.heap.size 33 i0 (.int .u64 0) 1 8 Try.underlying56 hi hz0 hz1 hz2 rfl (by decide) (.slice ad k cd) k (rangeC .u64 f k) rfl (row_below HO3.out ((Below.refl _ _).alloc (Nat.le_refl _) _)) ⟨w3.heap.size, 0, none⟩ 1 1 [.int .u64 (F : Int)] rfl rfl (new_cell1 w3 _ _) (by simp [Value.oneCell']) (by unfold maxLen; omega) (by omega) (by simp; omega) ?_; intro v4 w4 hown4 hg4 hnil4; have HB4 := hidD (row_grown (row_below HO3.out ((Below.refl _ _).alloc (Nat.le_refl _) _)) (HB3.out.alloc (Nat.le_trans hwz hwz3) _) hg4 (by simp; omega)); clear hg4 hnil4))
      go_roundw
      case rel => exact ⟨k + 1, by omega, by go_num, by rw [HRN.out]; exact hown4, HB4.out⟩
      case measure => simp [intOf]; omega
    · obtain rfl : k = 256 := by omega
      go_wp2_with fail
      refine bodyPost_ret (v := .tuple #[.slice ad 256 cd, .int .i64 0]) (by simp [results, Try.results30, go_sem]) rfl ⟨_, rfl, row_mono HOW.out HB2.out.size, Below.next HB2.out hbel⟩

set_option maxRecDepth 100000 in
set_option maxHeartbeats 400000 in
theorem sameLongs_same (n : Nat) (f : Nat → Nat) (hl : n ≤ 1000) (s1 s2 : Value) (w : World) (h1 : NsAt w .u64 s1 n f) (h2 : NsAt w .u64 s2 n f) : Calls Try.prog 31 #[s1, s2] w fun e w' => e = .returned (.bool true) ∧ Below w.heap.size w w' := by
  obtain ⟨a1, c1, rfl, hsh1⟩ := h1
  obtain ⟨a2, c2, rfl, hsh2⟩ := h2
  have HS1 := hidD hsh1
  have HS2 := hidD hsh2
  clear hsh1 hsh2
  go_enter Try.func31, Try.ntmps31
  go_wp2_with fail
  go_loopw [5] (fun i wr => ∃ k : Nat, k ≤ n ∧ i = .int .i64 k ∧ Below w.heap.size w wr) (fun i _ => n - (intOf i).toNat)
  case atStart => exact ⟨0, Nat.zero_le _, rfl, Below.refl _ _⟩
  case round =>
    obtain ⟨k, hk, rfl, hbel⟩ := hrel
    have HBL := hidD hbel
    by_cases hlt : k < n
    · obtain ⟨g1, o1, rfl, hg1, hc1⟩ := HS1.out k hlt
      obtain ⟨g2, o2, rfl, hg2, hc2⟩ := HS2.out k hlt
      have d1 := (hbel.cell (p := ⟨g1, o1 + k, none⟩) hg1).trans hc1
      have d2 := (hbel.cell (p := ⟨g2, o2 + k, none⟩) hg2).trans hc2
      have hlti : (k : Int) < n := by omega
      clear hbel hc1 hc2
      generalize f k = x at *
      go_wp2_with fail
      go_quiet (fail)
      go_wp2_with fail
      go_roundw
      case rel => exact ⟨k + 1, by omega, by go_num, below_drewN HBL.out _⟩
      case measure => simp [intOf]; omega
    · go_wp2_with fail
      go_ret
      exact ⟨rfl, hbel⟩

set_option maxRecDepth 100000 in
set_option maxHeartbeats 400000 in
theorem sameWords_same (n : Nat) (f : Nat → Nat) (hl : n ≤ 1000) (s1 s2 : Value) (w : World) (h1 : NsAt w .u32 s1 n f) (h2 : NsAt w .u32 s2 n f) : Calls Try.prog 12 #[s1, s2] w fun e w' => e = .returned (.bool true) ∧ Below w.heap.size w w' := by
  obtain ⟨a1, c1, rfl, hsh1⟩ := h1
  obtain ⟨a2, c2, rfl, hsh2⟩ := h2
  have HS1 := hidD hsh1
  have HS2 := hidD hsh2
  clear hsh1 hsh2
  go_enter Try.func12, Try.ntmps12
  go_wp2_with fail
  go_loopw [5] (fun i wr => ∃ k : Nat, k ≤ n ∧ i = .int .i64 k ∧ Below w.heap.size w wr) (fun i _ => n - (intOf i).toNat)
  case atStart => exact ⟨0, Nat.zero_le _, rfl, Below.refl _ _⟩
  case round =>
    obtain ⟨k, hk, rfl, hbel⟩ := hrel
    have HBL := hidD hbel
    by_cases hlt : k < n
    · obtain ⟨g1, o1, rfl, hg1, hc1⟩ := HS1.out k hlt
      obtain ⟨g2, o2, rfl, hg2, hc2⟩ := HS2.out k hlt
      have d1 := (hbel.cell (p := ⟨g1, o1 + k, none⟩) hg1).trans hc1
      have d2 := (hbel.cell (p := ⟨g2, o2 + k, none⟩) hg2).trans hc2
      have hlti : (k : Int) < n := by omega
      clear hbel hc1 hc2
      generalize f k = x at *
      go_wp2_with fail
      go_quiet (fail)
      go_wp2_with fail
      go_roundw
      case rel => exact ⟨k + 1, by omega, by go_num, below_drewN HBL.out _⟩
      case measure => simp [intOf]; omega
    · go_wp2_with fail
      go_ret
      exact ⟨rfl, hbel⟩
end Go.Proofs.Ytjhaaphgaplhlaa
