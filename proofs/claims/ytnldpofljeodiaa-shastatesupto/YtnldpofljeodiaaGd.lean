/- Texts of one proof, one behind the other. -/
import Derived.Test.YtnldpofljeodiaaGc
/- What Size, Begin, three, turns of the document's answer for layer 8 answer. -/
namespace Go.Proofs.Ytnldpofljeodiaa
open Go.RowKit
set_option linter.unusedVariables false

theorem rSize_any (k : Nat) (hk : Kind k) (w : World) : Calls Try.prog 39 #[.int .i64 (k : Int)] w fun e w' => e = .returned (.tuple #[.int .i64 ((k / 8 : Nat) : Int), .int .i64 (blkN k : Int), .int .i64 0]) ∧ w' = w := by
  rcases hk with rfl | rfl | rfl | rfl <;>
  · go_enter Try.func39, Try.ntmps39
    go_wp2_with fail
    refine bodyPost_ret (by simp [results, Try.results39, go_sem]; rfl) rfl ?_
    exact ⟨rfl, rfl⟩
theorem rSize_no (k : Int) (h : k ≠ 224 ∧ k ≠ 256 ∧ k ≠ 384 ∧ k ≠ 512) (w : World) : Calls Try.prog 39 #[.int .i64 k] w fun e w' => e = .returned (.tuple #[.int .i64 0, .int .i64 0, .int .i64 1]) ∧ w' = w := by
  obtain ⟨h1, h2, h3, h4⟩ := h
  go_enter Try.func39, Try.ntmps39
  go_wp2_with fail
  refine bodyPost_ret (v := .tuple #[.int .i64 0, .int .i64 0, .int .i64 1]) (by simp [results, Try.results39, go_sem]) rfl ?_
  exact ⟨rfl, rfl⟩
/- a hash of the document's in memory -/
def HaAt (w : World) (g : Nat) (k : Nat) (vk vh : Value) (a : Nat) (vb : Value) : Prop := w.heap[g]? = some (.cells #[.int .i64 (k : Int), vk, vh, .int .u64 (a : Int), vb] (54 : TypeId) (0, 0))
theorem HaAt.next {w w' : World} {g k a : Nat} {vk vh vb : Value} (h : HaAt w g k vk vh a vb) (hb : Below w.heap.size w w') : HaAt w' g k vk vh a vb := (hb.block _ (row_lt h)).trans h
theorem HaAt.kd {w : World} {g k a : Nat} {vk vh vb : Value} (h : HaAt w g k vk vh a vb) : KdAt w g k := ⟨row_lt h, by rw [cell_of_row _ _ _ _ _ _ h]; rfl⟩
set_option maxRecDepth 100000 in
set_option maxHeartbeats 800000 in
theorem rBegin_any (k : Nat) (hk : Kind k) (w : World) : Calls Try.prog 31 #[.int .i64 (k : Int)] w fun e w' => ∃ g vk vh, e = .returned (.tuple #[.pointer (some ⟨g, 0, none⟩), .int .i64 0]) ∧ w.heap.size ≤ g ∧ HaAt w' g k vk vh 0 (.slice none 0 0) ∧ NsAt w' .u64 vk (nkK k) (coS k) ∧ NsAt w' .u64 vh 8 (hS k) ∧ Below w.heap.size w w' := by
  have HC := hidD (con6_any k hk)
  clear hk
  go_enter Try.func31, Try.ntmps31
  go_wp2_with (go_at_call 56; refine (HC.out _).mono ?_; rintro e w1 ⟨vk, vh, rfl, hk, hh, hb⟩; obtain ⟨ak, ck, rfl, _, _⟩ := id hk; obtain ⟨ah, ch, rfl, _, _⟩ := id hh; have HK := hidD hk; have HH := hidD hh; clear hk hh)
  refine bodyPost_ret (v := .tuple #[.pointer (some ⟨w1.heap.size, 0, none⟩), .int .i64 0]) (by simp [results, Try.results31, go_sem]) rfl ?_
  exact ⟨_, _, _, rfl, hb.size, heap_alloc_last _ _, HK.out.below ((Below.refl _ _).alloc (Nat.le_refl _) _), HH.out.below ((Below.refl _ _).alloc (Nat.le_refl _) _), hb.alloc hb.size _⟩
set_option maxRecDepth 100000 in
theorem rBegin_no (x : Int) (h : x ≠ 224 ∧ x ≠ 256 ∧ x ≠ 384 ∧ x ≠ 512) (w : World) : Calls Try.prog 31 #[.int .i64 x] w fun e w' => e = .returned (.tuple #[.pointer none, .int .i64 1]) ∧ Below w.heap.size w w' := by
  have HC := hidD (con6_no x h)
  clear h
  go_enter Try.func31, Try.ntmps31
  go_wp2_with (go_at_call 56; refine (HC.out _).mono ?_; rintro e w1 ⟨rfl, hb⟩)
  refine bodyPost_ret (v := .tuple #[.pointer none, .int .i64 1]) (by simp [results, Try.results31, go_sem]) rfl ⟨rfl, hb⟩
set_option maxRecDepth 100000 in
set_option maxHeartbeats 1600000 in
theorem rThree_turns (g k : Nat) (hk : k ≤ 512) (v a b c : Nat) (hv : v < mdK k) (ha : a ≤ wdt k) (hb : b ≤ wdt k) (hc : c ≤ wdt k) (w : World) (h : KdAt w g k) : Calls Try.prog 67 #[.pointer (some ⟨g, 0, none⟩), .int .u64 (v : Int), .agg (row3 a b c), .bool false] w fun e w' => e = .returned (.int .u64 (turnsS (wdt k) v a b c : Int)) ∧ Below w.heap.size w w' := by
  have HT : Hid (∀ n : Nat, n ≤ wdt k → ∀ wA, Below w.heap.size w wA → Calls Try.prog 77 #[.pointer (some ⟨g, 0, none⟩), .int .u64 (v : Int), .int .i64 (n : Int)] wA fun e w' => e = .returned (.int .u64 (rotr (wdt k) v n : Int)) ∧ Below wA.heap.size wA w') := fun n hn wA hA => (rTurn_any g k hk v n hv hn wA (h.next hA)).mono fun e w' ⟨h1, h2⟩ => ⟨h1, by rw [h2]; exact Below.refl _ _⟩
  have hvw : v < 2 ^ wdt k := by rw [← mdK_two]; exact hv
  have hw64 : 2 ^ wdt k ≤ 18446744073709551616 := by rw [← mdK_two]; unfold mdK; split <;> omega
  have l1 := Nat.lt_of_lt_of_le (rotr_lt (wdt k) v a hvw) hw64
  have l2 := Nat.lt_of_lt_of_le (rotr_lt (wdt k) v b hvw) hw64
  have l3 : rotr (wdt k) v c < 18446744073709551616 := Nat.lt_of_lt_of_le (rotr_lt (wdt k) v c hvw) hw64
  have hv64 : v < 18446744073709551616 := Nat.lt_of_lt_of_le hvw hw64
  have x1 := u64_xor_nat _ _ l1 l2
  have x2 := u64_xor_nat _ _ (Nat.xor_lt_two_pow (n := 64) l1 l2) l3
  have HTA := hidD (HT.out a ha)
  have HTB := hidD (HT.out b hb)
  have HTC := hidD (HT.out c hc)
  have hc64 : c ≤ 64 := Nat.le_trans hc (by unfold wdt; split <;> omega)
  have hres : turnsS (wdt k) v a b c = (rotr (wdt k) v a ^^^ rotr (wdt k) v b) ^^^ (rotr (wdt k) v c) := rfl
  rw [hres]
  have ha64 : a ≤ 64 := Nat.le_trans ha (by unfold wdt; split <;> omega)
  have hb64 : b ≤ 64 := Nat.le_trans hb (by unfold wdt; split <;> omega)
  clear HT hres hvw hw64 h ha hb hv hc
  generalize (rotr (wdt k) v a ^^^ rotr (wdt k) v b) ^^^ (rotr (wdt k) v c) = R at *
  generalize rotr (wdt k) v a ^^^ rotr (wdt k) v b = RAB at *
  generalize rotr (wdt k) v a = RA at *
  generalize rotr (wdt k) v b = RB at *
  generalize rotr (wdt k) v c = RC at *
  unfold row3
  have W1 : Hid ((w.alloc (.cells #[.int .i64 (a : Int), .int .i64 (b : Int), .int .i64 (c : Int)] (94 : TypeId))).heap[w.heap.size]? = some (.cells #[.int .i64 (a : Int), .int .i64 (b : Int), .int .i64 (c : Int)] (94 : TypeId) (0, 0))) := heap_alloc_last _ _
  have B1 : Hid (Below w.heap.size w (w.alloc (.cells #[.int .i64 (a : Int), .int .i64 (b : Int), .int .i64 (c : Int)] (94 : TypeId)))) := (Below.refl _ _).alloc (Nat.le_refl _) _
  go_enter Try.func67, Try.ntmps67
  go_upto_region 1 with fail
  obtain ⟨WA, hWA⟩ : ∃ WA : World, WA = w.alloc (.cells #[.int .i64 (a : Int), .int .i64 (b : Int), .int .i64 (c : Int)] (94 : TypeId)) := ⟨_, rfl⟩
  refine at_world hWA ?_
  rw [← hWA] at W1 B1
  clear hWA
  have c0 : ∀ i : BW WA, i.v.cell? ⟨w.heap.size, 0, none⟩ = some (.int .i64 (a : Int)) := fun i => by rw [cell_of_row _ _ _ _ _ _ ((i.below.block _ (row_lt W1.out)).trans W1.out)]; rfl
  have c1 : ∀ i : BW WA, i.v.cell? ⟨w.heap.size, 1, none⟩ = some (.int .i64 (b : Int)) := fun i => by rw [cell_of_row _ _ _ _ _ _ ((i.below.block _ (row_lt W1.out)).trans W1.out)]; rfl
  have HBN : Hid (∀ x : World, Below WA.heap.size WA x → Below w.heap.size w x) := fun x hx => Below.next B1.out hx
  have HC2 : Hid (∀ x : World, Below WA.heap.size WA x → x.cell? ⟨w.heap.size, 2, none⟩ = some (.int .i64 (c : Int))) := fun x hx => by rw [cell_of_row _ _ _ _ _ _ ((hx.block _ (row_lt W1.out)).trans W1.out)]; rfl
  have HQA := hidD (fun i : BW WA => HTA.out _ (HBN.out _ i.below))
  have HQB := hidD (fun i : BW WA => HTB.out _ (HBN.out _ i.below))
  clear HTA HTB
  refine wp_region_below (by kernel_rfl) (by kernel_rfl) ?_
  iterate 4 (go_big_quiet_step (fail))
  go_big_quiet_step ((go_at_call 77; exact Calls.below_of (HQA.out _)))
  iterate 4 (go_big_quiet_step (fail))
  go_big_quiet_step ((go_at_call 77; exact Calls.below_of (HQB.out _)))
  iterate 2 (go_big_quiet_step (fail))
  refine wpQuiet_nil ?_
  intro x
  have h2 := HC2.out _ x.below
  have HXB := hidD (HBN.out _ x.below)
  clear c0 c1 HQA HQB
  generalize x.v = v1 at *
  have HQC := hidD (HTC.out _ HXB.out)
  go_wp2_with (go_at_call 77; refine HQC.out.mono ?_; rintro e w5 ⟨rfl, hb5⟩)
  go_ret
  exact ⟨rfl, Below.next HXB.out hb5⟩
set_option maxRecDepth 100000 in
set_option maxHeartbeats 1600000 in
theorem rThree_shifts (g k : Nat) (hk : k ≤ 512) (v a b c : Nat) (hv : v < mdK k) (ha : a ≤ wdt k) (hb : b ≤ wdt k) (hc : c ≤ 32) (w : World) (h : KdAt w g k) : Calls Try.prog 67 #[.pointer (some ⟨g, 0, none⟩), .int .u64 (v : Int), .agg (row3 a b c), .bool true] w fun e w' => e = .returned (.int .u64 (shiftsS (wdt k) v a b c : Int)) ∧ Below w.heap.size w w' := by
  have HT : Hid (∀ n : Nat, n ≤ wdt k → ∀ wA, Below w.heap.size w wA → Calls Try.prog 77 #[.pointer (some ⟨g, 0, none⟩), .int .u64 (v : Int), .int .i64 (n : Int)] wA fun e w' => e = .returned (.int .u64 (rotr (wdt k) v n : Int)) ∧ Below wA.heap.size wA w') := fun n hn wA hA => (rTurn_any g k hk v n hv hn wA (h.next hA)).mono fun e w' ⟨h1, h2⟩ => ⟨h1, by rw [h2]; exact Below.refl _ _⟩
  have hvw : v < 2 ^ wdt k := by rw [← mdK_two]; exact hv
  have hw64 : 2 ^ wdt k ≤ 18446744073709551616 := by rw [← mdK_two]; unfold mdK; split <;> omega
  have l1 := Nat.lt_of_lt_of_le (rotr_lt (wdt k) v a hvw) hw64
  have l2 := Nat.lt_of_lt_of_le (rotr_lt (wdt k) v b hvw) hw64
  have l3 : v / 2 ^ c < 18446744073709551616 := Nat.lt_of_le_of_lt (Nat.div_le_self _ _) (Nat.lt_of_lt_of_le hvw hw64)
  have hv64 : v < 18446744073709551616 := Nat.lt_of_lt_of_le hvw hw64
  have x1 := u64_xor_nat _ _ l1 l2
  have x2 := u64_xor_nat _ _ (Nat.xor_lt_two_pow (n := 64) l1 l2) l3
  have HTA := hidD (HT.out a ha)
  have HTB := hidD (HT.out b hb)
  have hdv : (v : Int) / 2 ^ c = ((v / 2 ^ c : Nat) : Int) := by simp
  have hres : shiftsS (wdt k) v a b c = (rotr (wdt k) v a ^^^ rotr (wdt k) v b) ^^^ (v / 2 ^ c) := rfl
  rw [hres]
  have ha64 : a ≤ 64 := Nat.le_trans ha (by unfold wdt; split <;> omega)
  have hb64 : b ≤ 64 := Nat.le_trans hb (by unfold wdt; split <;> omega)
  clear HT hres hvw hw64 h ha hb hv
  generalize (rotr (wdt k) v a ^^^ rotr (wdt k) v b) ^^^ (v / 2 ^ c) = R at *
  generalize rotr (wdt k) v a ^^^ rotr (wdt k) v b = RAB at *
  generalize rotr (wdt k) v a = RA at *
  generalize rotr (wdt k) v b = RB at *
  generalize v / 2 ^ c = RC at *
  unfold row3
  have W1 : Hid ((w.alloc (.cells #[.int .i64 (a : Int), .int .i64 (b : Int), .int .i64 (c : Int)] (94 : TypeId))).heap[w.heap.size]? = some (.cells #[.int .i64 (a : Int), .int .i64 (b : Int), .int .i64 (c : Int)] (94 : TypeId) (0, 0))) := heap_alloc_last _ _
  have B1 : Hid (Below w.heap.size w (w.alloc (.cells #[.int .i64 (a : Int), .int .i64 (b : Int), .int .i64 (c : Int)] (94 : TypeId)))) := (Below.refl _ _).alloc (Nat.le_refl _) _
  go_enter Try.func67, Try.ntmps67
  go_upto_region 1 with fail
  obtain ⟨WA, hWA⟩ : ∃ WA : World, WA = w.alloc (.cells #[.int .i64 (a : Int), .int .i64 (b : Int), .int .i64 (c : Int)] (94 : TypeId)) := ⟨_, rfl⟩
  refine at_world hWA ?_
  rw [← hWA] at W1 B1
  clear hWA
  have c0 : ∀ i : BW WA, i.v.cell? ⟨w.heap.size, 0, none⟩ = some (.int .i64 (a : Int)) := fun i => by rw [cell_of_row _ _ _ _ _ _ ((i.below.block _ (row_lt W1.out)).trans W1.out)]; rfl
  have c1 : ∀ i : BW WA, i.v.cell? ⟨w.heap.size, 1, none⟩ = some (.int .i64 (b : Int)) := fun i => by rw [cell_of_row _ _ _ _ _ _ ((i.below.block _ (row_lt W1.out)).trans W1.out)]; rfl
  have HBN : Hid (∀ x : World, Below WA.heap.size WA x → Below w.heap.size w x) := fun x hx => Below.next B1.out hx
  have HC2 : Hid (∀ x : World, Below WA.heap.size WA x → x.cell? ⟨w.heap.size, 2, none⟩ = some (.int .i64 (c : Int))) := fun x hx => by rw [cell_of_row _ _ _ _ _ _ ((hx.block _ (row_lt W1.out)).trans W1.out)]; rfl
  have HQA := hidD (fun i : BW WA => HTA.out _ (HBN.out _ i.below))
  have HQB := hidD (fun i : BW WA => HTB.out _ (HBN.out _ i.below))
  clear HTA HTB
  refine wp_region_below (by kernel_rfl) (by kernel_rfl) ?_
  iterate 4 (go_big_quiet_step (fail))
  go_big_quiet_step ((go_at_call 77; exact Calls.below_of (HQA.out _)))
  iterate 4 (go_big_quiet_step (fail))
  go_big_quiet_step ((go_at_call 77; exact Calls.below_of (HQB.out _)))
  iterate 2 (go_big_quiet_step (fail))
  refine wpQuiet_nil ?_
  intro x
  have h2 := HC2.out _ x.below
  have HXB := hidD (HBN.out _ x.below)
  clear c0 c1 HQA HQB
  generalize x.v = v1 at *
  go_wp2_with fail
  go_ret
  exact ⟨rfl, HXB.out⟩
end Go.Proofs.Ytnldpofljeodiaa
/- What turns and block of the document's answer for layer 8 answer. -/
namespace Go.Proofs.Ytnldpofljeodiaa
open Go.RowKit
set_option linter.unusedVariables false

def tuR (k : Nat) : Array Value := if 256 < k then #[.int .i64 28, .int .i64 34, .int .i64 39, .int .i64 14, .int .i64 18, .int .i64 41, .int .i64 1, .int .i64 8, .int .i64 7, .int .i64 19, .int .i64 61, .int .i64 6] else #[.int .i64 2, .int .i64 13, .int .i64 22, .int .i64 6, .int .i64 11, .int .i64 25, .int .i64 7, .int .i64 18, .int .i64 3, .int .i64 17, .int .i64 19, .int .i64 10]
theorem Try.zero113z : (Try.prog.info? 113).map (fun i => (i.zero, i.size)) = some (some (.agg #[.int .i64 0, .int .i64 0, .int .i64 0, .int .i64 0, .int .i64 0, .int .i64 0, .int .i64 0, .int .i64 0, .int .i64 0, .int .i64 0, .int .i64 0, .int .i64 0]), 12) := by kernel_rfl
theorem wpList_build4 {P : Program} {ops : Array Oper} {rest : List Oper} {op : Oper} {a : Act} {w : World} {Q : Exit → Act → World → Prop} (hgd : op.guard = none) (ty : TypeId) (i0 i1 i2 i3 : Nat) (x0 x1 x2 x3 : Operand) (ho : op.op = .build ty #[(i0, x0), (i1, x1), (i2, x2), (i3, x3)]) (v0 v1 v2 v3 v : Value) (h0 : a.eval x0 = v0) (h1 : a.eval x1 = v1) (h2 : a.eval x2 = v2) (h3 : a.eval x3 = v3) (h : (Instr.build ty #[(i0, v0), (i1, v1), (i2, v2), (i3, v3)]).run P w = .ok v w) (hk : wpList P ops Q rest (a.put op.dst v) w) : wpList P ops Q (op :: rest) a w :=
  wpList_plain hgd fun _ hK => by
    unfold Oper.wp execOp
    simp only [ho, List.map_toArray, List.map_cons, List.map_nil, h0, h1, h2, h3, Sem.run_bind, h, Result.andThen_ok]
    exact hK _ _ hk
theorem build94 (a b c : Int) (w : World) : (Instr.build 94 #[(0, .int .i64 a), (1, .int .i64 b), (2, .int .i64 c)]).run Try.prog w = .ok (.agg #[.int .i64 a, .int .i64 b, .int .i64 c]) w := by kernel_rfl
set_option maxRecDepth 100000 in
set_option maxHeartbeats 1600000 in
theorem rTurns_any (g k : Nat) (hk : k ≤ 512) (w : World) (h : KdAt w g k) : Calls Try.prog 64 #[.pointer (some ⟨g, 0, none⟩)] w fun e w' => e = .returned (.agg (tuR k)) ∧ Below w.heap.size w w' := by
  obtain ⟨hz, hsz⟩ := zero_of_info Try.zero113z
  have HSZ := hidD hsz
  have HB3 := hidD build94
  have HW : Hid (∀ wA, Below w.heap.size w wA → Calls Try.prog 76 #[.pointer (some ⟨g, 0, none⟩)] wA fun e w' => e = .returned (.bool (decide (256 < k))) ∧ w' = wA) := fun wA hA => rWide_any g k hk wA (h.next hA)
  clear hsz h
  generalize hZ : (#[.int .i64 0, .int .i64 0, .int .i64 0, .int .i64 0, .int .i64 0, .int .i64 0, .int .i64 0, .int .i64 0, .int .i64 0, .int .i64 0, .int .i64 0, .int .i64 0] : Array Value) = Z at *
  have HZS : Hid (Z.size = 12) := by show _ = _; rw [← hZ]; rfl
  clear hZ
  have W1 : Hid ((w.alloc (.cells Z (113 : TypeId))).heap[w.heap.size]? = some (.cells Z (113 : TypeId) (0, 0))) := heap_alloc_last _ _
  have B1 : Hid (Below w.heap.size w (w.alloc (.cells Z (113 : TypeId)))) := (Below.refl _ _).alloc (Nat.le_refl _) _
  have HTS : Hid ((tuR k).size = 12) := by show _ = _; unfold tuR; split <;> rfl
  have HTO : Hid ((tuR k).all (·.oneCell') = true) := by show _ = _; unfold tuR; split <;> simp [Value.oneCell']
  have hi : Hid ((Try.prog.info? 113).map (·.size) = some (tuR k).size) := by show _ = _; rw [HSZ.out, HTS.out]
  have HSS : Hid (Z.size = (tuR k).size) := by show _ = _; rw [HZS.out, HTS.out]
  clear HTS
  by_cases hw : 256 < k
  · rw [decide_eq_true hw] at HW
    have HB4 : Hid (∀ w, (Instr.build 113 #[(0, .agg #[.int .i64 28, .int .i64 34, .int .i64 39]), (1, .agg #[.int .i64 14, .int .i64 18, .int .i64 41]), (2, .agg #[.int .i64 1, .int .i64 8, .int .i64 7]), (3, .agg #[.int .i64 19, .int .i64 61, .int .i64 6])]).run Try.prog w = .ok (.agg (tuR k)) w) := fun w => by
      rw [show tuR k = #[.int .i64 28, .int .i64 34, .int .i64 39, .int .i64 14, .int .i64 18, .int .i64 41, .int .i64 1, .int .i64 8, .int .i64 7, .int .i64 19, .int .i64 61, .int .i64 6] from if_pos hw]; kernel_rfl
    clear hw
    generalize tuR k = T at *
    go_enter Try.func64, Try.ntmps64
    go_wp2_with (first
      | (go_at_call 76; refine (HW.out _ B1.out).mono ?_; rintro e wz ⟨rfl, hwz⟩; subst wz)
      | (refine wpList_build3 rfl 94 0 1 2 (.const (.int .i64 28)) (.const (.int .i64 34)) (.const (.int .i64 39)) rfl (.int .i64 28) (.int .i64 34) (.int .i64 39) (.agg #[.int .i64 28, .int .i64 34, .int .i64 39]) rfl rfl rfl (HB3.out 28 34 39 _) ?_)
      | (refine wpList_build3 rfl 94 0 1 2 (.const (.int .i64 14)) (.const (.int .i64 18)) (.const (.int .i64 41)) rfl (.int .i64 14) (.int .i64 18) (.int .i64 41) (.agg #[.int .i64 14, .int .i64 18, .int .i64 41]) rfl rfl rfl (HB3.out 14 18 41 _) ?_)
      | (refine wpList_build3 rfl 94 0 1 2 (.const (.int .i64 1)) (.const (.int .i64 8)) (.const (.int .i64 7)) rfl (.int .i64 1) (.int .i64 8) (.int .i64 7) (.agg #[.int .i64 1, .int .i64 8, .int .i64 7]) rfl rfl rfl (HB3.out 1 8 7 _) ?_)
      | (refine wpList_build3 rfl 94 0 1 2 (.const (.int .i64 19)) (.const (.int .i64 61)) (.const (.int .i64 6)) rfl (.int .i64 19) (.int .i64 61) (.int .i64 6) (.agg #[.int .i64 19, .int .i64 61, .int .i64 6]) rfl rfl rfl (HB3.out 19 61 6 _) ?_)
      | (refine wpList_build4 rfl 113 0 1 2 3 (.tmp 5) (.tmp 6) (.tmp 7) (.tmp 8) rfl (.agg #[.int .i64 28, .int .i64 34, .int .i64 39]) (.agg #[.int .i64 14, .int .i64 18, .int .i64 41]) (.agg #[.int .i64 1, .int .i64 8, .int .i64 7]) (.agg #[.int .i64 19, .int .i64 61, .int .i64 6]) (.agg T) rfl rfl rfl rfl (HB4.out _) ?_)
      | (refine wpList_store_row rfl 113 _ _ rfl w.heap.size T rfl rfl 113 Z W1.out hi.out HSS.out HTO.out ?_))
    refine bodyPost_ret (results_cell_row (P := Try.prog) (p := 2) (ty := 113) (by kernel_rfl) _ _ w.heap.size 113 T (0, 0) _ rfl (setRow_heap _ _ Z T 113 (0, 0) W1.out) Try.underlying113 rfl hi.out) rfl ?_
    exact ⟨rfl, below_setRow B1.out (Nat.le_refl _) _⟩
  · rw [decide_eq_false hw] at HW
    have HB4 : Hid (∀ w, (Instr.build 113 #[(0, .agg #[.int .i64 2, .int .i64 13, .int .i64 22]), (1, .agg #[.int .i64 6, .int .i64 11, .int .i64 25]), (2, .agg #[.int .i64 7, .int .i64 18, .int .i64 3]), (3, .agg #[.int .i64 17, .int .i64 19, .int .i64 10])]).run Try.prog w = .ok (.agg (tuR k)) w) := fun w => by
      rw [show tuR k = #[.int .i64 2, .int .i64 13, .int .i64 22, .int .i64 6, .int .i64 11, .int .i64 25, .int .i64 7, .int .i64 18, .int .i64 3, .int .i64 17, .int .i64 19, .int .i64 10] from if_neg hw]; kernel_rfl
    clear hw
    generalize tuR k = T at *
    go_enter Try.func64, Try.ntmps64
    go_wp2_with (first
      | (go_at_call 76; refine (HW.out _ B1.out).mono ?_; rintro e wz ⟨rfl, hwz⟩; subst wz)
      | (refine wpList_build3 rfl 94 0 1 2 (.const (.int .i64 2)) (.const (.int .i64 13)) (.const (.int .i64 22)) rfl (.int .i64 2) (.int .i64 13) (.int .i64 22) (.agg #[.int .i64 2, .int .i64 13, .int .i64 22]) rfl rfl rfl (HB3.out 2 13 22 _) ?_)
      | (refine wpList_build3 rfl 94 0 1 2 (.const (.int .i64 6)) (.const (.int .i64 11)) (.const (.int .i64 25)) rfl (.int .i64 6) (.int .i64 11) (.int .i64 25) (.agg #[.int .i64 6, .int .i64 11, .int .i64 25]) rfl rfl rfl (HB3.out 6 11 25 _) ?_)
      | (refine wpList_build3 rfl 94 0 1 2 (.const (.int .i64 7)) (.const (.int .i64 18)) (.const (.int .i64 3)) rfl (.int .i64 7) (.int .i64 18) (.int .i64 3) (.agg #[.int .i64 7, .int .i64 18, .int .i64 3]) rfl rfl rfl (HB3.out 7 18 3 _) ?_)
      | (refine wpList_build3 rfl 94 0 1 2 (.const (.int .i64 17)) (.const (.int .i64 19)) (.const (.int .i64 10)) rfl (.int .i64 17) (.int .i64 19) (.int .i64 10) (.agg #[.int .i64 17, .int .i64 19, .int .i64 10]) rfl rfl rfl (HB3.out 17 19 10 _) ?_)
      | (refine wpList_build4 rfl 113 0 1 2 3 (.tmp 10) (.tmp 11) (.tmp 12) (.tmp 13) rfl (.agg #[.int .i64 2, .int .i64 13, .int .i64 22]) (.agg #[.int .i64 6, .int .i64 11, .int .i64 25]) (.agg #[.int .i64 7, .int .i64 18, .int .i64 3]) (.agg #[.int .i64 17, .int .i64 19, .int .i64 10]) (.agg T) rfl rfl rfl rfl (HB4.out _) ?_)
      | (refine wpList_store_row rfl 113 _ _ rfl w.heap.size T rfl rfl 113 Z W1.out hi.out HSS.out HTO.out ?_))
    refine bodyPost_ret (results_cell_row (P := Try.prog) (p := 2) (ty := 113) (by kernel_rfl) _ _ w.heap.size 113 T (0, 0) _ rfl (setRow_heap _ _ Z T 113 (0, 0) W1.out) Try.underlying113 rfl hi.out) rfl ?_
    exact ⟨rfl, below_setRow B1.out (Nat.le_refl _) _⟩
end Go.Proofs.Ytnldpofljeodiaa
/- What block of the document's answer for layer 8 answers. -/
namespace Go.Proofs.Ytnldpofljeodiaa
open Go.RowKit
set_option linter.unusedVariables false

set_option maxRecDepth 100000 in
set_option maxHeartbeats 1600000 in
theorem rBlock_any (n : Nat) (hn : n ≤ 8) (b : Nat → UInt8) (hp : Value) (g0 off cap : Nat) (hlc : 16 * n ≤ cap) (w : World) (hg : g0 < w.heap.size) (hc : ∀ q, q < 16 * n → w.cell? ⟨g0, off + q, none⟩ = some (.int .u8 ((b q).toNat : Int))) : Calls Try.prog 65 #[hp, .slice (some ⟨g0, off, none⟩) (16 * n) cap] w fun e w' => ∃ v, e = .returned v ∧ w'.ownsRow w.heap.size 41 1 v 16 (rangeC .u64 (fun t => beTo b (t * n) n) 16) ∧ Below w.heap.size w w' := by
  obtain ⟨i0, hi, hz0, hz1, hz2⟩ := info_parts Try.info41c
  have HC := hidD hc
  have hdv : ((16 * n : Nat) : Int).tdiv 16 = (n : Int) := by rw [Int.tdiv_eq_ediv_of_nonneg (by omega)]; omega
  clear hc
  obtain ⟨L, hL⟩ : ∃ L : Nat, 16 * n = L := ⟨_, rfl⟩
  rw [hL] at HC hdv hlc ⊢
  have HL := hidD hL
  have hL128 : L ≤ 128 := by omega
  clear hL
  go_enter Try.func65, Try.ntmps65
  go_wp2_with fail
  go_loopw [6, 7] (fun o tv wr => ∃ t : Nat, t ≤ 16 ∧ tv = .int .i64 (t : Int) ∧ wr.ownsRow w.heap.size 41 1 o t (rangeC .u64 (fun t => beTo b (t * n) n) t) ∧ Below w.heap.size w wr) (fun _ tv _ => 16 - (intOf tv).toNat)
  case atStart => exact ⟨0, Nat.zero_le _, rfl, World.ownsRow_nil _ _ _ _, Below.refl _ _⟩
  case round =>
    obtain ⟨t, ht, rfl, hown, hbel⟩ := hrel
    obtain ⟨ad, cd, hde⟩ := row_shape hown
    subst hde
    have HOW := hidD hown
    have HBL := hidD hbel
    have hwz := hbel.size
    clear hown
    by_cases hlt : t < 16
    · have hlti : (t : Int) < 16 := by omega
      obtain ⟨P, hP⟩ : ∃ P : Nat, t * n = P := ⟨_, rfl⟩
      have hPi : (n : Int) * (t : Int) = (P : Int) := by rw [← hP, Int.natCast_mul, Int.mul_comm]
      have hPL : P + n ≤ L := by
        rw [← HL.out, ← hP]
        have : (t + 1) * n ≤ 16 * n := Nat.mul_le_mul_right _ (by omega)
        rw [Nat.add_mul, Nat.one_mul] at this
        exact this
      have HRN : Hid (rangeC .u64 (fun t => beTo b (t * n) n) (t + 1) = rangeC .u64 (fun t => beTo b (t * n) n) t ++ [.int .u64 (beTo b P n : Int)]) := by
        show _ = _
        rw [rangeC_next, hP]
      have HCW : Hid (∀ q, q < L → wr.cell? ⟨g0, off + q, none⟩ = some (.int .u8 ((b q).toNat : Int))) := fun q hq => (hbel.cell (p := ⟨g0, off + q, none⟩) hg).trans (HC.out q hq)
      clear hP hbel
      generalize hRG : rangeC .u64 (fun t => beTo b (t * n) n) t = RG at *
      clear hRG
      obtain ⟨wl, hwl⟩ : ∃ wl : World, wl = wr := ⟨_, rfl⟩
      subst hwl
      go_wp2_with fail
      go_loopw [8, 9] (fun xv kv wr => ∃ k : Nat, k ≤ n ∧ kv = .int .i64 (k : Int) ∧ xv = .int .u64 (beTo b P k : Int) ∧ wr = wl) (fun _ kv _ => n - (intOf kv).toNat)
      case atStart => exact ⟨0, by omega, rfl, rfl, rfl⟩
      case round =>
        obtain ⟨k, hk, rfl, rfl, rfl⟩ := hrel
        by_cases hkl : k < n
        · have hkli : (k : Int) < (n : Int) := by omega
          have hcc := HCW.out (P + k) (by omega)
          rw [← Nat.add_assoc] at hcc
          have hpk : (P : Int) + (k : Int) = ((P + k : Nat) : Int) := by omega
          have hpkl : P + k < L := by omega
          have hoa : off + P + k = off + (P + k) := by omega
          rw [hoa] at hcc
          have hX : beTo b P k < 72057594037927936 := Nat.lt_of_lt_of_le (beTo_lt b P k) (show 2 ^ (8 * k) ≤ 2 ^ 56 from Nat.pow_le_pow_right (by omega) (by omega))
          have hY : (b (P + k)).toNat < 256 := UInt8.toNat_lt _
          have HNX : Hid (beTo b P (k + 1) = beTo b P k * 256 ||| (b (P + k)).toNat) := rfl
          have hor : bits .or .u64 ((beTo b P k : Int) * 256) ((b (P + k)).toNat : Int) = ((beTo b P k * 256 ||| (b (P + k)).toNat : Nat) : Int) := by
            rw [show (beTo b P k : Int) * 256 = ((beTo b P k * 256 : Nat) : Int) by simp]; exact u64_or_nat _ _ (by omega) (by omega)
          have hwr : IntKind.u64.wrap ((beTo b P k : Int) * 256) = (beTo b P k : Int) * 256 := by rw [IntKind.wrap_u64]; omega
          generalize beTo b P k * 256 ||| (b (P + k)).toNat = Z at *
          generalize beTo b P k = X at *
          generalize (b (P + k)).toNat = Y at *
          clear hoa
          generalize P + k = PK at *
          go_wp2_with fail
          go_roundw
          case rel =>
            first
            | exact ⟨k + 1, by omega, by go_num, by rw [HNX.out], by first | rfl | trivial⟩
            | ((repeat apply Exists.intro); refine And.intro ?_ rfl; exact ⟨k + 1, by omega, by go_num, by rw [HNX.out], by first | rfl | trivial⟩)
          case measure => simp [intOf]; omega
        · obtain rfl : k = n := by omega
          generalize beTo b P k = X at *
          go_wp2_with (at_builtin; refine wpList_append_own _ rfl _ _ 52 rfl w.heap.size 41 i0 (.int .u64 0) 1 8 Try.underlying52 hi hz0 hz1 hz2 rfl (by decide) (.slice ad t cd) t RG rfl (row_below HOW.out ((Below.refl _ _).alloc (Nat.le_refl _) _)) ⟨wr.heap.size, 0, none⟩ 1 1 [.int .u64 (X : Int)] rfl rfl (new_cell1 wr _ _) (by simp [Value.oneCell']) (by unfold maxLen; omega) (by omega) (by simp; omega) ?_; intro v4 w4 hown4 hg4 hnil4; have HB4 := hidD (row_grown (row_below HOW.out ((Below.refl _ _).alloc (Nat.le_refl _) _)) (HBL.out.alloc hwz _) hg4 (by simp; omega)); clear hg4 hnil4)
          go_roundw
          case rel =>
            first
            | exact ⟨t + 1, by omega, by go_num, by rw [HRN.out]; exact hown4, HB4.out⟩
            | ((repeat apply Exists.intro); refine And.intro ?_ rfl; exact ⟨t + 1, by omega, by go_num, by rw [HRN.out]; exact hown4, HB4.out⟩)
          case measure => simp [intOf]; omega
    · obtain rfl : t = 16 := by omega
      go_wp2_with fail
      refine bodyPost_ret (v := .slice ad 16 cd) (by simp [results, Try.results65, go_sem]) rfl ⟨_, rfl, HOW.out, hbel⟩
end Go.Proofs.Ytnldpofljeodiaa
