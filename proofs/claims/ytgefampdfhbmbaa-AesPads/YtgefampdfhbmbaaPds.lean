/- AesPads: the walk. -/
import Derived.Test.YtgefampdfhbmbaaEqa
import Derived.Test.YtgefampdfhbmbaaMe
import Derived.Test.YtgefampdfhbmbaaHeldS
import Derived.Deep.MidRow
import Derived.Laws.StructEq
namespace Go.Proofs.Ytgefampdfhbmbaa
open Go.RowKit
set_option linter.unusedVariables false

theorem range_of {w : World} {g : Nat} {cs : List Value} {ty : TypeId} (h : w.heap[g]? = some (.cells cs.toArray ty (0, 0))) : w.rangeAt g 0 cs := fun j v hv => by
  rw [Nat.zero_add, cell_of_row _ _ _ _ _ _ h, List.getElem?_toArray]; exact hv
theorem load_at {P : Program} {md : Region.Mode} {ops : Array Oper} {Q : Exit → Act → World → Prop} {S : World → Prop} (i d : Nat) (ty : TypeId) (x : Operand) (b o : Nat) (cs : List Value) (td : TypeDesc) {oi : Oper} {fuel : Nat} {listed : Array Bool} {a : Act} {w : World} (hi : ops[i]? = some oi) (hd : oi.dst = some d)
    (hs : Region.noSelect ops = true) (hf : Region.free md ops listed i = true) (hr : (Region.ready md ops listed).contains i = true)
    (hQ : ∀ c a w, Q (.panic c) (a.put oi.dst (.agg cs.toArray)) w → Q (.panic c) a w) (hw : Region.wanted oi (yielded ops a.tmps) = true) (ho : oi.op = .load ty x) (hx : a.eval x = .pointer (some ⟨b, o, none⟩)) (hS : S w) (hSr : ∀ w, S w → w.rangeAt b o cs)
    (hu : P.underlying ty = some td) (htd : td.isRow = true) (hsz : (P.info? ty).map (·.size) = some cs.length)
    (h : wpAnyH P md ops Q S fuel (listed.setIfInBounds i true) (a.put (some d) (.agg cs.toArray)) w) : wpAnyH P md ops Q S (fuel + 1) listed a w :=
  wpAnyH_take hi hs hf hr hQ (yieldsIf_load_mid hw ty x ho b o hx cs td hSr hu htd hsz) hS (by rw [hd]; exact h)
theorem sl_ownP {w : World} {base : Nat} {v : Value} {l : List UInt8} {n : Nat} (h : w.ownsRow base 5 1 v n (l.map encB)) : SlAt w v l := sl_of_own (base := base) (by have := h.1; rw [List.length_map, Nat.mul_one] at this; rw [this]; exact h)
theorem row_byP {w : World} {base : Nat} {v : Value} {l : List UInt8} {n : Nat} (h : w.ownsRow base 5 1 v n (l.map encB)) : ByAt w v l := (sl_ownP h).by'
set_option maxRecDepth 100000 in
set_option maxHeartbeats 40000000 in
theorem aesPads_any (l o : List UInt8) (hl : l.length ≤ 140737488355200) (ho : o.length ≤ 140737488355200) (b : Nat → UInt8) (v x : Value) (w : World) (hv : SlAt w v l) (hx : SlAt w x o) : Calls Try.prog 6 #[v, x, .agg (bR b)] w fun e w' => e = .returned (.bool true) ∧ Below w.heap.size w w' := by
  have HAV := hidD alive_any
  have HV : Hid (∀ wA, Below w.heap.size w wA → SlAt wA v l) := fun wA hb => hv.next hb
  have HX : Hid (∀ wA, Below w.heap.size w wA → SlAt wA x o) := fun wA hb => hx.next hb
  have HOV : Hid (∀ wA, Below w.heap.size w wA → Calls Try.prog 15 #[v] wA fun e w' => ∃ vo, e = .returned vo ∧ w'.ownsRow wA.heap.size 5 1 vo l.length (l.map encB) ∧ Below wA.heap.size wA w') := fun wA hb => own_any l hl v wA (hv.next hb).by'
  have HOX : Hid (∀ wA, Below w.heap.size w wA → Calls Try.prog 15 #[x] wA fun e w' => ∃ vo, e = .returned vo ∧ w'.ownsRow wA.heap.size 5 1 vo o.length (o.map encB) ∧ Below wA.heap.size wA w') := fun wA hb => own_any o ho x wA (hx.next hb).by'
  have HOV2 := HOV
  have HUN : Hid (∀ wA vA, SlAt wA vA l → Calls Try.prog 30 #[vA] wA fun e w' => ∃ vo, e = .returned (.tuple #[vo, .int .i64 (unpE l : Int)]) ∧ SlAt w' vo (unpS l) ∧ Below wA.heap.size wA w') := fun wA vA h => pUnpad_any l (by omega) vA wA h.by'
  have HUP : Hid (∀ wA vA, SlAt wA vA (padS l) → Calls Try.prog 30 #[vA] wA fun e w' => ∃ vo, e = .returned (.tuple #[vo, .int .i64 0]) ∧ SlAt w' vo l ∧ Below wA.heap.size wA w') := fun wA vA h => by
    have h1 := pUnpad_any (padS l) (by rw [pad_len]; unfold padN; omega) vA wA h.by'
    rw [(unp_pad l).1, (unp_pad l).2] at h1
    exact h1
  have HRU : Hid (∀ wA vA, SlAt wA vA l → Calls Try.prog 31 #[vA] wA fun e w' => ∃ vo, e = .returned (.tuple #[vo, .int .i64 (unpE l : Int)]) ∧ ByAt w' vo (unpS l) ∧ Below wA.heap.size wA w') := fun wA vA h => refUnpad_any l (by omega) vA wA h
  have HPP : Hid (∀ wA vA, SlAt wA vA l → Calls Try.prog 32 #[vA] wA fun e w' => ∃ vo, e = .returned vo ∧ SlAt w' vo (padS l) ∧ Below wA.heap.size wA w') := fun wA vA h => pPad_any l (by omega) vA wA h.by'
  have HPP2 := HPP
  have HRP : Hid (∀ wA vA, ByAt wA vA l → Calls Try.prog 33 #[vA] wA fun e w' => ∃ vo, e = .returned vo ∧ w'.ownsRow wA.heap.size 5 1 vo (padS l).length ((padS l).map encB) ∧ Below wA.heap.size wA w') := fun wA vA h => refPad_any l hl vA wA h
  have HEO : Hid (∀ wA uA vA, SlAt wA uA l → SlAt wA vA o → Calls Try.prog 34 #[uA, vA] wA fun e w' => e = .returned (.bool (decide (l = o))) ∧ Below wA.heap.size wA w') := fun wA uA vA h1 h2 => pEqual_any l o (by omega) uA vA wA h1.by' h2.by'
  have HEL : Hid (∀ wA uA vA, SlAt wA uA l → SlAt wA vA l → Calls Try.prog 34 #[uA, vA] wA fun e w' => e = .returned (.bool true) ∧ Below wA.heap.size wA w') := fun wA uA vA h1 h2 => by
    have h3 := pEqual_any l l (by omega) uA vA wA h1.by' h2.by'
    rw [decide_eq_true rfl] at h3
    exact h3
  have HSM : ∀ L : List UInt8, Hid (∀ wA u v, ByAt wA u L → ByAt wA v L → Calls Try.prog 13 #[u, v] wA fun e w' => e = .returned (.bool true) ∧ w' = wA) := fun L wA u v hu hv => by
    have := same_any L L u v wA hu hv
    rw [decide_eq_true rfl] at this
    exact this
  have HS1 := HSM (padS l)
  have HS2 := HSM (unpS l)
  have HS3 := HSM l
  have HS4 := HSM l
  have HSO : Hid (∀ wA u v, ByAt wA u l → ByAt wA v o → Calls Try.prog 13 #[u, v] wA fun e w' => e = .returned (.bool (decide (l = o))) ∧ w' = wA) := fun wA u v h1 h2 => same_any l o u v wA h1 h2
  have HF1 : Hid (∀ wA, Calls Try.prog 35 #[.agg (bR b)] wA fun e w' => e = .returned (.agg (bR (shB b))) ∧ Below wA.heap.size wA w') := fun wA => pShift_any b wA
  have HF2 : Hid (∀ wA, Calls Try.prog 36 #[.agg (bR b), .int .i64 1] wA fun e w' => e = .returned (.agg (bR (shB b))) ∧ Below wA.heap.size wA w') := fun wA => refShift_any b wA
  have HF3 : Hid (∀ wA, Calls Try.prog 37 #[.agg (bR b)] wA fun e w' => e = .returned (.agg (bR (usB b))) ∧ Below wA.heap.size wA w') := fun wA => pUnshift_any b wA
  have HF4 : Hid (∀ wA, Calls Try.prog 36 #[.agg (bR b), .int .i64 (-1)] wA fun e w' => e = .returned (.agg (bR (usB b))) ∧ Below wA.heap.size wA w') := fun wA => refUnshift_any b wA
  have HF5 : Hid (∀ wA, Calls Try.prog 37 #[.agg (bR (shB b))] wA fun e w' => e = .returned (.agg (bR b)) ∧ Below wA.heap.size wA w') := fun wA => by
    have h1 := pUnshift_any (shB b) wA
    rw [bR_congr (us_sh b)] at h1
    exact h1
  have HF6 := HF1
  have hq1 : ∀ w : World, Sem.run Try.prog (Op.equalIn 10000 50 (.agg (bR (shB b))) (.agg (bR (shB b)))) w = .ok true w := fun w => eqRow (bR (shB b)) (fun k hk => ⟨_, rowZ_get .u8 16 _ k hk⟩) w
  have hq2 : ∀ w : World, Sem.run Try.prog (Op.equalIn 10000 50 (.agg (bR (usB b))) (.agg (bR (usB b)))) w = .ok true w := fun w => eqRow (bR (usB b)) (fun k hk => ⟨_, rowZ_get .u8 16 _ k hk⟩) w
  have hq3 : ∀ w : World, Sem.run Try.prog (Op.equalIn 10000 50 (.agg (bR b)) (.agg (bR b))) w = .ok true w := fun w => eqRow (bR b) (fun k hk => ⟨_, rowZ_get .u8 16 _ k hk⟩) w
  have hu50 := Try.underlying50
  obtain ⟨ys, hys, hyl⟩ : ∃ ys : List Value, bR b = ys.toArray ∧ ys.length = 16 := ⟨lZ .u8 16 (fun i => ((b i).toNat : Int)), rfl, lZ_len _ _ _⟩
  have hi50 : (Try.prog.info? 50).map (·.size) = some ys.length := by rw [hyl]; exact (zero_of_info Try.zero50).2
  rw [hys] at HF1 HF2 HF3 HF4 HF5 HF6 hq3 ⊢
  generalize bR (shB b) = ss at *
  generalize bR (usB b) = us at *
  clear hys hyl HSM
  obtain ⟨av, cv, rfl, _, _⟩ := hv.shape
  obtain ⟨ax, cx, rfl, _, _⟩ := hx.shape
  clear hv hx
  have HAL : Hid (∀ (w' : World) o, Below w'.heap.size w' (w'.alloc o)) := fun w' o => (Below.refl _ _).alloc (Nat.le_refl _) o
  have HG0 : Hid ((w.alloc (.cells ys.toArray (50 : TypeId))).heap[w.heap.size]? = some (.cells ys.toArray (50 : TypeId) (0, 0))) := heap_alloc_last _ _
  have HB0 := hidD (HAL.out w (.cells ys.toArray (50 : TypeId)))
  generalize l.length = LL at *
  generalize o.length = OL at *
  generalize decide (l = o) = DB at *
  have hDB : (DB == DB) = true := by cases DB <;> rfl
  go_enter Try.func6, Try.ntmps6
  go_wp2_with (first
    | (go_at_call 15; refine (HOV.out _ HB0.out).mono ?_; rintro e w1 ⟨vo, rfl, hx, hb⟩; obtain ⟨am, cm, hvm⟩ := row_shape hx; subst hvm; have HM1 := hidD (sl_ownP hx); clear hx; have HB1 : Hid (Below w.heap.size w w1) := Below.next HB0.out hb; have HG1 : Hid (w1.heap[w.heap.size]? = some (.cells ys.toArray (50 : TypeId) (0, 0))) := (hb.block _ (row_lt HG0.out)).trans HG0.out; clear hb HB0 HG0  HOV)
    | (go_at_call 30; refine (HUN.out _ _ HM1.out).mono ?_; rintro e w2 ⟨vo, rfl, hx, hb⟩; obtain ⟨au, nu, cu, hvv⟩ := sl_shape hx; subst hvv; have HM2 := hidD (HM1.out.next hb); have HU2 := hidD hx; clear hx; have HB2 : Hid (Below w.heap.size w w2) := Below.next HB1.out hb; have HG2 : Hid (w2.heap[w.heap.size]? = some (.cells ys.toArray (50 : TypeId) (0, 0))) := (hb.block _ (row_lt HG1.out)).trans HG1.out; clear hb HB1 HG1 HM1 HUN)
    | (go_at_call 31; refine (HRU.out _ _ (HV.out _ HB2.out)).mono ?_; rintro e w3 ⟨vo, rfl, hx, hb⟩; obtain ⟨ar, cr, hvv, _⟩ := hx.shape; subst hvv; have HM3 := hidD (HM2.out.next hb); have HU3 := hidD (HU2.out.next hb); have HR3 := hidD hx; clear hx; have HB3 : Hid (Below w.heap.size w w3) := Below.next HB2.out hb; have HG3 : Hid (w3.heap[w.heap.size]? = some (.cells ys.toArray (50 : TypeId) (0, 0))) := (hb.block _ (row_lt HG2.out)).trans HG2.out; clear hb HB2 HG2 HM2 HU2 HRU)
    | (go_at_call 32; refine (HPP.out _ _ HM3.out).mono ?_; rintro e w4 ⟨vo, rfl, hx, hb⟩; obtain ⟨ap, np, cp, hvv⟩ := sl_shape hx; subst hvv; have HM4 := hidD (HM3.out.next hb); have HU4 := hidD (HU3.out.next hb); have HR4 := hidD (HR3.out.next hb); have HP4 := hidD hx; clear hx; have HB4 : Hid (Below w.heap.size w w4) := Below.next HB3.out hb; have HG4 : Hid (w4.heap[w.heap.size]? = some (.cells ys.toArray (50 : TypeId) (0, 0))) := (hb.block _ (row_lt HG3.out)).trans HG3.out; clear hb HB3 HG3 HM3 HU3 HR3 HPP)
    | (go_at_call 30; refine (HUP.out _ _ HP4.out).mono ?_; rintro e w5 ⟨vo, rfl, hx, hb⟩; obtain ⟨aq, nq, cq, hvv⟩ := sl_shape hx; subst hvv; have HM5 := hidD (HM4.out.next hb); have HU5 := hidD (HU4.out.next hb); have HR5 := hidD (HR4.out.next hb); have HP5 := hidD (HP4.out.next hb); have HQ5 := hidD hx; clear hx; have HB5 : Hid (Below w.heap.size w w5) := Below.next HB4.out hb; have HG5 : Hid (w5.heap[w.heap.size]? = some (.cells ys.toArray (50 : TypeId) (0, 0))) := (hb.block _ (row_lt HG4.out)).trans HG4.out; clear hb HB4 HG4 HM4 HU4 HR4 HP4 HUP))
  have HDR := hidD ((Below.refl w5.heap.size w5).drew)
  have HM6 := hidD (HM5.out.next HDR.out)
  have HU6 := hidD (HU5.out.next HDR.out)
  have HR6 := hidD (HR5.out.next HDR.out)
  have HP6 := hidD (HP5.out.next HDR.out)
  have HQ6 := hidD (HQ5.out.next HDR.out)
  have HB6 : Hid (Below w.heap.size w w5.drew) := HB5.out.drew
  have HG6 : Hid (w5.drew.heap[w.heap.size]? = some (.cells ys.toArray (50 : TypeId) (0, 0))) := HG5.out
  clear HB5 HG5 HM5 HU5 HR5 HP5 HQ5
  simp only [List.append_eq, List.cons_append, List.nil_append]
  refine wp_region_held_drew (S := fun w' => w'.rangeAt w.heap.size 0 ys) (by kernel_rfl) ?_ (fun hHeld => ?_)
  · exact range_of HG6.out
  refine take_at 0 32 (v := ?_) rfl rfl (by kernel_rfl) (by kernel_rfl) (by kernel_rfl) (fun _ _ _ h => h) (by rfl) (by assumption) (fun w hSw => ?_) ?_
  rotate_left
  · (try dsimp only at hSw); clear hSw; go_simp; first | done | with_reducible rfl
  try simp only [Act.put, List.setIfInBounds_toArray, List.set_cons_zero, List.set_cons_succ]
  refine take_at 2 34 (v := ?_) rfl rfl (by kernel_rfl) (by kernel_rfl) (by kernel_rfl) (fun _ _ _ h => h) (by rfl) (by assumption) (fun w hSw => ?_) ?_
  rotate_left
  · (try dsimp only at hSw); clear hSw; go_simp; first | done | with_reducible rfl
  try simp only [Act.put, List.setIfInBounds_toArray, List.set_cons_zero, List.set_cons_succ]
  refine move_at 1 (oi := { dst := some 33, op := Go.Op.call { callee := Go.Callee.value (Go.Operand.func 32), args := #[Go.Operand.tmp 32], argTypes := #[22] }, type := 22, pos := "law.go:108", after := #[{ on := 0, ground := Go.Ground.data }], guard := none }) rfl (by kernel_rfl) (by rfl) (fun K hK => ?_)
  go_simp
  go_at_call 32; refine (HPP2.out _ _ HM6.out).mono ?_; rintro e w7 ⟨vo, rfl, hx, hb⟩; obtain ⟨att, ntt, ctt, hvv⟩ := sl_shape hx; subst hvv; have HM7 := hidD (HM6.out.next hb); have HU7 := hidD (HU6.out.next hb); have HR7 := hidD (HR6.out.next hb); have HP7 := hidD (HP6.out.next hb); have HQ7 := hidD (HQ6.out.next hb); have HT7 := hidD hx; clear hx; have HB7 : Hid (Below w.heap.size w w7) := Below.next HB6.out hb; have HG7 : Hid (w7.heap[w.heap.size]? = some (.cells ys.toArray (50 : TypeId) (0, 0))) := (hb.block _ (row_lt HG6.out)).trans HG6.out; clear hb HB6 HG6 HM6 HU6 HR6 HP6 HQ6 HPP2
  refine hK.out _ _ (range_of HG7.out) (fun hHeld => ?_)
  clear hK K
  try simp only [Act.put, List.setIfInBounds_toArray, List.set_cons_zero, List.set_cons_succ]
  refine move_at 3 (oi := { dst := some 35, op := Go.Op.call { callee := Go.Callee.value (Go.Operand.func 33), args := #[Go.Operand.tmp 34], argTypes := #[22] }, type := 22, pos := "law.go:108", after := #[{ on := 2, ground := Go.Ground.data }, { on := 1, ground := Go.Ground.chain }], guard := none }) rfl (by kernel_rfl) (by rfl) (fun K hK => ?_)
  go_simp
  go_at_call 33; refine (HRP.out _ _ (HV.out _ HB7.out).by').mono ?_; rintro e w8 ⟨vo, rfl, hx, hb⟩; obtain ⟨aw, cw, hvw⟩ := row_shape hx; subst hvw; have HM8 := hidD (HM7.out.next hb); have HU8 := hidD (HU7.out.next hb); have HR8 := hidD (HR7.out.next hb); have HP8 := hidD (HP7.out.next hb); have HQ8 := hidD (HQ7.out.next hb); have HT8 := hidD (HT7.out.next hb); have HW8 := hidD (row_byP hx); clear hx; have HB8 : Hid (Below w.heap.size w w8) := Below.next HB7.out hb; have HG8 : Hid (w8.heap[w.heap.size]? = some (.cells ys.toArray (50 : TypeId) (0, 0))) := (hb.block _ (row_lt HG7.out)).trans HG7.out; clear hb HB7 HG7 HM7 HU7 HR7 HP7 HQ7 HT7 HRP
  refine hK.out _ _ (range_of HG8.out) (fun hHeld => ?_)
  clear hK K
  try simp only [Act.put, List.setIfInBounds_toArray, List.set_cons_zero, List.set_cons_succ]
  refine move_at 4 (oi := { dst := some 36, op := Go.Op.call { callee := Go.Callee.value (Go.Operand.func 13), args := #[Go.Operand.tmp 33, Go.Operand.tmp 35], argTypes := #[22, 22] }, type := 4, pos := "law.go:108", after := #[{ on := 1, ground := Go.Ground.data }, { on := 3, ground := Go.Ground.data }, { on := 3, ground := Go.Ground.chain }], guard := none }) rfl (by kernel_rfl) (by rfl) (fun K hK => ?_)
  go_simp
  go_at_call 13; refine (HS1.out _ _ _ HT8.out.by' HW8.out).mono ?_; rintro e wz ⟨rfl, hwz⟩; subst wz; clear HS1
  refine hK.out _ _ (range_of HG8.out) (fun hHeld => ?_)
  clear hK K
  try simp only [Act.put, List.setIfInBounds_toArray, List.set_cons_zero, List.set_cons_succ]
  refine take_at 5 37 (v := ?_) rfl rfl (by kernel_rfl) (by kernel_rfl) (by kernel_rfl) (fun _ _ _ h => h) (by rfl) (by assumption) (fun w hSw => ?_) ?_
  rotate_left
  · (try dsimp only at hSw); clear hSw; go_simp; first | done | with_reducible rfl
  try simp only [Act.put, List.setIfInBounds_toArray, List.set_cons_zero, List.set_cons_succ]
  refine take_at 6 38 (v := ?_) rfl rfl (by kernel_rfl) (by kernel_rfl) (by kernel_rfl) (fun _ _ _ h => h) (by rfl) (by assumption) (fun w hSw => ?_) ?_
  rotate_left
  · (try dsimp only at hSw); clear hSw; go_simp; first | done | with_reducible rfl
  try simp only [Act.put, List.setIfInBounds_toArray, List.set_cons_zero, List.set_cons_succ]
  refine take_at 7 39 (v := ?_) rfl rfl (by kernel_rfl) (by kernel_rfl) (by kernel_rfl) (fun _ _ _ h => h) (by rfl) (by assumption) (fun w hSw => ?_) ?_
  rotate_left
  · (try dsimp only at hSw); clear hSw; go_simp; first | done | with_reducible rfl
  try simp only [Act.put, List.setIfInBounds_toArray, List.set_cons_zero, List.set_cons_succ]
  refine move_at 8 (oi := { dst := some 40, op := Go.Op.call { callee := Go.Callee.value (Go.Operand.func 13), args := #[Go.Operand.tmp 38, Go.Operand.tmp 39], argTypes := #[22, 22] }, type := 4, pos := "law.go:108", after := #[{ on := 6, ground := Go.Ground.data }, { on := 7, ground := Go.Ground.data }, { on := 5, ground := Go.Ground.chain }, { on := 5, ground := Go.Ground.guard }], guard := some (5, true) }) rfl (by kernel_rfl) (by rfl) (fun K hK => ?_)
  go_simp
  go_at_call 13; refine (HS2.out _ _ _ HU8.out.by' HR8.out).mono ?_; rintro e wz ⟨rfl, hwz⟩; subst wz; clear HS2
  refine hK.out _ _ (range_of HG8.out) (fun hHeld => ?_)
  clear hK K
  try simp only [Act.put, List.setIfInBounds_toArray, List.set_cons_zero, List.set_cons_succ]
  refine take_at 9 41 (v := ?_) rfl rfl (by kernel_rfl) (by kernel_rfl) (by kernel_rfl) (fun _ _ _ h => h) (by rfl) (by assumption) (fun w hSw => ?_) ?_
  rotate_left
  · (try dsimp only at hSw); clear hSw; go_simp; first | done | with_reducible rfl
  try simp only [Act.put, List.setIfInBounds_toArray, List.set_cons_zero, List.set_cons_succ]
  refine take_at 10 42 (v := ?_) rfl rfl (by kernel_rfl) (by kernel_rfl) (by kernel_rfl) (fun _ _ _ h => h) (by rfl) (by assumption) (fun w hSw => ?_) ?_
  rotate_left
  · (try dsimp only at hSw); clear hSw; go_simp; first | done | with_reducible rfl
  try simp only [Act.put, List.setIfInBounds_toArray, List.set_cons_zero, List.set_cons_succ]
  refine take_at 11 43 (v := ?_) rfl rfl (by kernel_rfl) (by kernel_rfl) (by kernel_rfl) (fun _ _ _ h => h) (by rfl) (by assumption) (fun w hSw => ?_) ?_
  rotate_left
  · (try dsimp only at hSw); clear hSw; go_simp; first | done | with_reducible rfl
  try simp only [Act.put, List.setIfInBounds_toArray, List.set_cons_zero, List.set_cons_succ]
  refine take_at 12 44 (v := ?_) rfl rfl (by kernel_rfl) (by kernel_rfl) (by kernel_rfl) (fun _ _ _ h => h) (by rfl) (by assumption) (fun w hSw => ?_) ?_
  rotate_left
  · (try dsimp only at hSw); clear hSw; go_simp; first | done | with_reducible rfl
  try simp only [Act.put, List.setIfInBounds_toArray, List.set_cons_zero, List.set_cons_succ]
  refine take_at 13 45 (v := ?_) rfl rfl (by kernel_rfl) (by kernel_rfl) (by kernel_rfl) (fun _ _ _ h => h) (by rfl) (by assumption) (fun w hSw => ?_) ?_
  rotate_left
  · (try dsimp only at hSw); clear hSw; go_simp; first | done | with_reducible rfl
  try simp only [Act.put, List.setIfInBounds_toArray, List.set_cons_zero, List.set_cons_succ]
  refine take_at 14 46 (v := ?_) rfl rfl (by kernel_rfl) (by kernel_rfl) (by kernel_rfl) (fun _ _ _ h => h) (by rfl) (by assumption) (fun w hSw => ?_) ?_
  rotate_left
  · (try dsimp only at hSw); clear hSw; go_simp; first | done | with_reducible rfl
  try simp only [Act.put, List.setIfInBounds_toArray, List.set_cons_zero, List.set_cons_succ]
  refine take_at 15 47 (v := ?_) rfl rfl (by kernel_rfl) (by kernel_rfl) (by kernel_rfl) (fun _ _ _ h => h) (by rfl) (by assumption) (fun w hSw => ?_) ?_
  rotate_left
  · (try dsimp only at hSw); clear hSw; go_simp; first | done | with_reducible rfl
  try simp only [Act.put, List.setIfInBounds_toArray, List.set_cons_zero, List.set_cons_succ]
  refine take_at 16 48 (v := ?_) rfl rfl (by kernel_rfl) (by kernel_rfl) (by kernel_rfl) (fun _ _ _ h => h) (by rfl) (by assumption) (fun w hSw => ?_) ?_
  rotate_left
  · (try dsimp only at hSw); clear hSw; go_simp; first | done | with_reducible rfl
  try simp only [Act.put, List.setIfInBounds_toArray, List.set_cons_zero, List.set_cons_succ]
  refine take_at 17 49 (v := ?_) rfl rfl (by kernel_rfl) (by kernel_rfl) (by kernel_rfl) (fun _ _ _ h => h) (by rfl) (by assumption) (fun w hSw => ?_) ?_
  rotate_left
  · (try dsimp only at hSw); clear hSw; go_simp; first | done | with_reducible rfl
  try simp only [Act.put, List.setIfInBounds_toArray, List.set_cons_zero, List.set_cons_succ]
  refine take_at 18 50 (v := ?_) rfl rfl (by kernel_rfl) (by kernel_rfl) (by kernel_rfl) (fun _ _ _ h => h) (by rfl) (by assumption) (fun w hSw => ?_) ?_
  rotate_left
  · (try dsimp only at hSw); clear hSw; go_simp; first | done | with_reducible rfl
  try simp only [Act.put, List.setIfInBounds_toArray, List.set_cons_zero, List.set_cons_succ]
  refine take_at 19 51 (v := ?_) rfl rfl (by kernel_rfl) (by kernel_rfl) (by kernel_rfl) (fun _ _ _ h => h) (by rfl) (by assumption) (fun w hSw => ?_) ?_
  rotate_left
  · (try dsimp only at hSw); clear hSw; go_simp; first | done | with_reducible rfl
  try simp only [Act.put, List.setIfInBounds_toArray, List.set_cons_zero, List.set_cons_succ]
  refine take_at 20 52 (v := ?_) rfl rfl (by kernel_rfl) (by kernel_rfl) (by kernel_rfl) (fun _ _ _ h => h) (by rfl) (by assumption) (fun w hSw => ?_) ?_
  rotate_left
  · (try dsimp only at hSw); clear hSw; go_simp; first | done | with_reducible rfl
  try simp only [Act.put, List.setIfInBounds_toArray, List.set_cons_zero, List.set_cons_succ]
  refine take_at 21 53 (v := ?_) rfl rfl (by kernel_rfl) (by kernel_rfl) (by kernel_rfl) (fun _ _ _ h => h) (by rfl) (by assumption) (fun w hSw => ?_) ?_
  rotate_left
  · (try dsimp only at hSw); clear hSw; go_simp; first | done | with_reducible rfl
  try simp only [Act.put, List.setIfInBounds_toArray, List.set_cons_zero, List.set_cons_succ]
  refine move_at 22 (oi := { dst := some 54, op := Go.Op.call { callee := Go.Callee.value (Go.Operand.func 13), args := #[Go.Operand.tmp 52, Go.Operand.tmp 53], argTypes := #[22, 22] }, type := 4, pos := "law.go:108", after := #[{ on := 20, ground := Go.Ground.data }, { on := 21, ground := Go.Ground.data }, { on := 19, ground := Go.Ground.chain }, { on := 19, ground := Go.Ground.guard }], guard := some (19, true) }) rfl (by kernel_rfl) (by rfl) (fun K hK => ?_)
  go_simp
  go_at_call 13; refine (HS3.out _ _ _ HQ8.out.by' (HV.out _ HB8.out).by').mono ?_; rintro e wz ⟨rfl, hwz⟩; subst wz; clear HS3
  refine hK.out _ _ (range_of HG8.out) (fun hHeld => ?_)
  clear hK K
  try simp only [Act.put, List.setIfInBounds_toArray, List.set_cons_zero, List.set_cons_succ]
  refine take_at 23 55 (v := ?_) rfl rfl (by kernel_rfl) (by kernel_rfl) (by kernel_rfl) (fun _ _ _ h => h) (by rfl) (by assumption) (fun w hSw => ?_) ?_
  rotate_left
  · (try dsimp only at hSw); clear hSw; go_simp; first | done | with_reducible rfl
  try simp only [Act.put, List.setIfInBounds_toArray, List.set_cons_zero, List.set_cons_succ]
  refine take_at 24 56 (v := ?_) rfl rfl (by kernel_rfl) (by kernel_rfl) (by kernel_rfl) (fun _ _ _ h => h) (by rfl) (by assumption) (fun w hSw => ?_) ?_
  rotate_left
  · (try dsimp only at hSw); clear hSw; go_simp; first | done | with_reducible rfl
  try simp only [Act.put, List.setIfInBounds_toArray, List.set_cons_zero, List.set_cons_succ]
  refine take_at 25 57 (v := ?_) rfl rfl (by kernel_rfl) (by kernel_rfl) (by kernel_rfl) (fun _ _ _ h => h) (by rfl) (by assumption) (fun w hSw => ?_) ?_
  rotate_left
  · (try dsimp only at hSw); clear hSw; go_simp; first | done | with_reducible rfl
  try simp only [Act.put, List.setIfInBounds_toArray, List.set_cons_zero, List.set_cons_succ]
  refine take_at 26 58 (v := ?_) rfl rfl (by kernel_rfl) (by kernel_rfl) (by kernel_rfl) (fun _ _ _ h => h) (by rfl) (by assumption) (fun w hSw => ?_) ?_
  rotate_left
  · (try dsimp only at hSw); clear hSw; go_simp; first | done | with_reducible rfl
  try simp only [Act.put, List.setIfInBounds_toArray, List.set_cons_zero, List.set_cons_succ]
  refine move_at 27 (oi := { dst := some 59, op := Go.Op.call { callee := Go.Callee.value (Go.Operand.func 13), args := #[Go.Operand.tmp 57, Go.Operand.tmp 58], argTypes := #[22, 22] }, type := 4, pos := "law.go:108", after := #[{ on := 25, ground := Go.Ground.data }, { on := 26, ground := Go.Ground.data }, { on := 24, ground := Go.Ground.chain }, { on := 24, ground := Go.Ground.guard }], guard := some (24, true) }) rfl (by kernel_rfl) (by rfl) (fun K hK => ?_)
  go_simp
  go_at_call 13; refine (HS4.out _ _ _ HM8.out.by' (HV.out _ HB8.out).by').mono ?_; rintro e wz ⟨rfl, hwz⟩; subst wz; clear HS4
  refine hK.out _ _ (range_of HG8.out) (fun hHeld => ?_)
  clear hK K
  try simp only [Act.put, List.setIfInBounds_toArray, List.set_cons_zero, List.set_cons_succ]
  refine take_at 28 60 (v := ?_) rfl rfl (by kernel_rfl) (by kernel_rfl) (by kernel_rfl) (fun _ _ _ h => h) (by rfl) (by assumption) (fun w hSw => ?_) ?_
  rotate_left
  · (try dsimp only at hSw); clear hSw; go_simp; first | done | with_reducible rfl
  try simp only [Act.put, List.setIfInBounds_toArray, List.set_cons_zero, List.set_cons_succ]
  refine take_at 29 61 (v := ?_) rfl rfl (by kernel_rfl) (by kernel_rfl) (by kernel_rfl) (fun _ _ _ h => h) (by rfl) (by assumption) (fun w hSw => ?_) ?_
  rotate_left
  · (try dsimp only at hSw); clear hSw; go_simp; first | done | with_reducible rfl
  try simp only [Act.put, List.setIfInBounds_toArray, List.set_cons_zero, List.set_cons_succ]
  refine take_at 30 62 (v := ?_) rfl rfl (by kernel_rfl) (by kernel_rfl) (by kernel_rfl) (fun _ _ _ h => h) (by rfl) (by assumption) (fun w hSw => ?_) ?_
  rotate_left
  · (try dsimp only at hSw); clear hSw; go_simp; first | done | with_reducible rfl
  try simp only [Act.put, List.setIfInBounds_toArray, List.set_cons_zero, List.set_cons_succ]
  refine take_at 31 63 (v := ?_) rfl rfl (by kernel_rfl) (by kernel_rfl) (by kernel_rfl) (fun _ _ _ h => h) (by rfl) (by assumption) (fun w hSw => ?_) ?_
  rotate_left
  · (try dsimp only at hSw); clear hSw; go_simp; first | done | with_reducible rfl
  try simp only [Act.put, List.setIfInBounds_toArray, List.set_cons_zero, List.set_cons_succ]
  refine take_at 34 66 (v := ?_) rfl rfl (by kernel_rfl) (by kernel_rfl) (by kernel_rfl) (fun _ _ _ h => h) (by rfl) (by assumption) (fun w hSw => ?_) ?_
  rotate_left
  · (try dsimp only at hSw); clear hSw; go_simp; first | done | with_reducible rfl
  try simp only [Act.put, List.setIfInBounds_toArray, List.set_cons_zero, List.set_cons_succ]
  refine take_at 35 67 (v := ?_) rfl rfl (by kernel_rfl) (by kernel_rfl) (by kernel_rfl) (fun _ _ _ h => h) (by rfl) (by assumption) (fun w hSw => ?_) ?_
  rotate_left
  · (try dsimp only at hSw); clear hSw; go_simp; first | done | with_reducible rfl
  try simp only [Act.put, List.setIfInBounds_toArray, List.set_cons_zero, List.set_cons_succ]
  refine move_at 32 (oi := { dst := some 64, op := Go.Op.call { callee := Go.Callee.value (Go.Operand.func 15), args := #[Go.Operand.tmp 63], argTypes := #[22] }, type := 22, pos := "law.go:108", after := #[{ on := 31, ground := Go.Ground.data }, { on := 29, ground := Go.Ground.chain }, { on := 29, ground := Go.Ground.guard }], guard := some (29, true) }) rfl (by kernel_rfl) (by rfl) (fun K hK => ?_)
  go_simp
  go_at_call 15; refine (HOX.out _ HB8.out).mono ?_; rintro e w9 ⟨vo, rfl, hx, hb⟩; obtain ⟨ao, co, hvo⟩ := row_shape hx; subst hvo; have HM9 := hidD (HM8.out.next hb); have HU9 := hidD (HU8.out.next hb); have HR9 := hidD (HR8.out.next hb); have HP9 := hidD (HP8.out.next hb); have HQ9 := hidD (HQ8.out.next hb); have HT9 := hidD (HT8.out.next hb); have HW9 := hidD (HW8.out.next hb); have HO9 := hidD (sl_ownP hx); clear hx; have HB9 : Hid (Below w.heap.size w w9) := Below.next HB8.out hb; have HG9 : Hid (w9.heap[w.heap.size]? = some (.cells ys.toArray (50 : TypeId) (0, 0))) := (hb.block _ (row_lt HG8.out)).trans HG8.out; clear hb HB8 HG8 HM8 HU8 HR8 HP8 HQ8 HT8 HW8 HOX
  refine hK.out _ _ (range_of HG9.out) (fun hHeld => ?_)
  clear hK K
  try simp only [Act.put, List.setIfInBounds_toArray, List.set_cons_zero, List.set_cons_succ]
  refine move_at 33 (oi := { dst := some 65, op := Go.Op.call { callee := Go.Callee.value (Go.Operand.func 34), args := #[Go.Operand.tmp 62, Go.Operand.tmp 64], argTypes := #[22, 22] }, type := 4, pos := "law.go:108", after := #[{ on := 30, ground := Go.Ground.data }, { on := 32, ground := Go.Ground.data }, { on := 32, ground := Go.Ground.chain }, { on := 29, ground := Go.Ground.guard }], guard := some (29, true) }) rfl (by kernel_rfl) (by rfl) (fun K hK => ?_)
  go_simp
  go_at_call 34; refine (HEO.out _ _ _ HM9.out HO9.out).mono ?_; rintro e w10 ⟨rfl, hb⟩; have HM10 := hidD (HM9.out.next hb); have HU10 := hidD (HU9.out.next hb); have HR10 := hidD (HR9.out.next hb); have HP10 := hidD (HP9.out.next hb); have HQ10 := hidD (HQ9.out.next hb); have HT10 := hidD (HT9.out.next hb); have HW10 := hidD (HW9.out.next hb); have HO10 := hidD (HO9.out.next hb); have HB10 : Hid (Below w.heap.size w w10) := Below.next HB9.out hb; have HG10 : Hid (w10.heap[w.heap.size]? = some (.cells ys.toArray (50 : TypeId) (0, 0))) := (hb.block _ (row_lt HG9.out)).trans HG9.out; clear hb HB9 HG9 HM9 HU9 HR9 HP9 HQ9 HT9 HW9 HO9 HEO
  refine hK.out _ _ (range_of HG10.out) (fun hHeld => ?_)
  clear hK K
  try simp only [Act.put, List.setIfInBounds_toArray, List.set_cons_zero, List.set_cons_succ]
  refine move_at 36 (oi := { dst := some 68, op := Go.Op.call { callee := Go.Callee.value (Go.Operand.func 13), args := #[Go.Operand.tmp 66, Go.Operand.tmp 67], argTypes := #[22, 22] }, type := 4, pos := "law.go:108", after := #[{ on := 34, ground := Go.Ground.data }, { on := 35, ground := Go.Ground.data }, { on := 33, ground := Go.Ground.chain }, { on := 29, ground := Go.Ground.guard }], guard := some (29, true) }) rfl (by kernel_rfl) (by rfl) (fun K hK => ?_)
  go_simp
  go_at_call 13; refine (HSO.out _ _ _ (HV.out _ HB10.out).by' (HX.out _ HB10.out).by').mono ?_; rintro e wz ⟨rfl, hwz⟩; subst wz; clear HSO
  refine hK.out _ _ (range_of HG10.out) (fun hHeld => ?_)
  clear hK K
  try simp only [Act.put, List.setIfInBounds_toArray, List.set_cons_zero, List.set_cons_succ]
  refine take_at 37 69 (v := ?_) rfl rfl (by kernel_rfl) (by kernel_rfl) (by kernel_rfl) (fun _ _ _ h => h) (by rfl) (by assumption) (fun w hSw => ?_) ?_
  rotate_left
  · (try dsimp only at hSw); clear hSw; go_simp; first | done | with_reducible rfl
  try simp only [Act.put, List.setIfInBounds_toArray, List.set_cons_zero, List.set_cons_succ]
  refine take_at 38 70 (v := ?_) rfl rfl (by kernel_rfl) (by kernel_rfl) (by kernel_rfl) (fun _ _ _ h => h) (by rfl) (by assumption) (fun w hSw => ?_) ?_
  rotate_left
  · (try dsimp only at hSw); clear hSw; go_simp; first | done | with_reducible rfl
  try simp only [Act.put, List.setIfInBounds_toArray, List.set_cons_zero, List.set_cons_succ]
  refine take_at 39 71 (v := ?_) rfl rfl (by kernel_rfl) (by kernel_rfl) (by kernel_rfl) (fun _ _ _ h => h) (by rfl) (by assumption) (fun w hSw => ?_) ?_
  rotate_left
  · (try dsimp only at hSw); clear hSw; go_simp; first | done | with_reducible rfl
  try simp only [Act.put, List.setIfInBounds_toArray, List.set_cons_zero, List.set_cons_succ]
  refine take_at 40 72 (v := ?_) rfl rfl (by kernel_rfl) (by kernel_rfl) (by kernel_rfl) (fun _ _ _ h => h) (by rfl) (by assumption) (fun w hSw => ?_) ?_
  rotate_left
  · (try dsimp only at hSw); clear hSw; go_simp; first | done | with_reducible rfl
  try simp only [Act.put, List.setIfInBounds_toArray, List.set_cons_zero, List.set_cons_succ]
  refine take_at 41 73 (v := ?_) rfl rfl (by kernel_rfl) (by kernel_rfl) (by kernel_rfl) (fun _ _ _ h => h) (by rfl) (by assumption) (fun w hSw => ?_) ?_
  rotate_left
  · (try dsimp only at hSw); clear hSw; go_simp; first | done | with_reducible rfl
  try simp only [Act.put, List.setIfInBounds_toArray, List.set_cons_zero, List.set_cons_succ]
  refine move_at 42 (oi := { dst := some 74, op := Go.Op.call { callee := Go.Callee.value (Go.Operand.func 15), args := #[Go.Operand.tmp 73], argTypes := #[22] }, type := 22, pos := "law.go:108", after := #[{ on := 41, ground := Go.Ground.data }, { on := 39, ground := Go.Ground.chain }, { on := 39, ground := Go.Ground.guard }], guard := some (39, true) }) rfl (by kernel_rfl) (by rfl) (fun K hK => ?_)
  go_simp
  go_at_call 15; refine (HOV2.out _ HB10.out).mono ?_; rintro e w11 ⟨vo, rfl, hx, hb⟩; obtain ⟨ak, ck, hvk⟩ := row_shape hx; subst hvk; have HM11 := hidD (HM10.out.next hb); have HU11 := hidD (HU10.out.next hb); have HR11 := hidD (HR10.out.next hb); have HP11 := hidD (HP10.out.next hb); have HQ11 := hidD (HQ10.out.next hb); have HT11 := hidD (HT10.out.next hb); have HW11 := hidD (HW10.out.next hb); have HO11 := hidD (HO10.out.next hb); have HK11 := hidD (sl_ownP hx); clear hx; have HB11 : Hid (Below w.heap.size w w11) := Below.next HB10.out hb; have HG11 : Hid (w11.heap[w.heap.size]? = some (.cells ys.toArray (50 : TypeId) (0, 0))) := (hb.block _ (row_lt HG10.out)).trans HG10.out; clear hb HB10 HG10 HM10 HU10 HR10 HP10 HQ10 HT10 HW10 HO10 HOV2
  refine hK.out _ _ (range_of HG11.out) (fun hHeld => ?_)
  clear hK K
  try simp only [Act.put, List.setIfInBounds_toArray, List.set_cons_zero, List.set_cons_succ]
  refine move_at 43 (oi := { dst := some 75, op := Go.Op.call { callee := Go.Callee.value (Go.Operand.func 34), args := #[Go.Operand.tmp 72, Go.Operand.tmp 74], argTypes := #[22, 22] }, type := 4, pos := "law.go:108", after := #[{ on := 40, ground := Go.Ground.data }, { on := 42, ground := Go.Ground.data }, { on := 42, ground := Go.Ground.chain }, { on := 39, ground := Go.Ground.guard }], guard := some (39, true) }) rfl (by kernel_rfl) (by rfl) (fun K hK => ?_)
  go_simp
  go_at_call 34; refine (HEL.out _ _ _ HM11.out HK11.out).mono ?_; rintro e w12 ⟨rfl, hb⟩; have HM12 := hidD (HM11.out.next hb); have HU12 := hidD (HU11.out.next hb); have HR12 := hidD (HR11.out.next hb); have HP12 := hidD (HP11.out.next hb); have HQ12 := hidD (HQ11.out.next hb); have HT12 := hidD (HT11.out.next hb); have HW12 := hidD (HW11.out.next hb); have HO12 := hidD (HO11.out.next hb); have HK12 := hidD (HK11.out.next hb); have HB12 : Hid (Below w.heap.size w w12) := Below.next HB11.out hb; have HG12 : Hid (w12.heap[w.heap.size]? = some (.cells ys.toArray (50 : TypeId) (0, 0))) := (hb.block _ (row_lt HG11.out)).trans HG11.out; clear hb HB11 HG11 HM11 HU11 HR11 HP11 HQ11 HT11 HW11 HO11 HK11 HEL
  refine hK.out _ _ (range_of HG12.out) (fun hHeld => ?_)
  clear hK K
  try simp only [Act.put, List.setIfInBounds_toArray, List.set_cons_zero, List.set_cons_succ]
  refine take_at 44 76 (v := ?_) rfl rfl (by kernel_rfl) (by kernel_rfl) (by kernel_rfl) (fun _ _ _ h => h) (by rfl) (by assumption) (fun w hSw => ?_) ?_
  rotate_left
  · (try dsimp only at hSw); clear hSw; go_simp; first | done | with_reducible rfl
  try simp only [Act.put, List.setIfInBounds_toArray, List.set_cons_zero, List.set_cons_succ]
  refine take_at 45 77 (v := ?_) rfl rfl (by kernel_rfl) (by kernel_rfl) (by kernel_rfl) (fun _ _ _ h => h) (by rfl) (by assumption) (fun w hSw => ?_) ?_
  rotate_left
  · (try dsimp only at hSw); clear hSw; go_simp; first | done | with_reducible rfl
  try simp only [Act.put, List.setIfInBounds_toArray, List.set_cons_zero, List.set_cons_succ]
  refine load_at 46 78 50 (.tmp 5) w.heap.size 0 ys _ rfl rfl (by kernel_rfl) (by kernel_rfl) (by kernel_rfl) (fun _ _ _ h => h) (by rfl) rfl rfl (by assumption) (fun _ h => h) hu50 rfl hi50 ?_
  try simp only [Act.put, List.setIfInBounds_toArray, List.set_cons_zero, List.set_cons_succ]
  refine load_at 48 80 50 (.tmp 5) w.heap.size 0 ys _ rfl rfl (by kernel_rfl) (by kernel_rfl) (by kernel_rfl) (fun _ _ _ h => h) (by rfl) rfl rfl (by assumption) (fun _ h => h) hu50 rfl hi50 ?_
  try simp only [Act.put, List.setIfInBounds_toArray, List.set_cons_zero, List.set_cons_succ]
  refine move_at 47 (oi := { dst := some 79, op := Go.Op.call { callee := Go.Callee.value (Go.Operand.func 35), args := #[Go.Operand.tmp 78], argTypes := #[50] }, type := 50, pos := "law.go:108", after := #[{ on := 46, ground := Go.Ground.data }, { on := 45, ground := Go.Ground.chain }, { on := 45, ground := Go.Ground.guard }], guard := some (45, true) }) rfl (by kernel_rfl) (by rfl) (fun K hK => ?_)
  go_simp
  go_at_call 35; refine (HF1.out _).mono ?_; rintro e w13 ⟨rfl, hb⟩; have HB13 : Hid (Below w.heap.size w w13) := Below.next HB12.out hb; have HG13 : Hid (w13.heap[w.heap.size]? = some (.cells ys.toArray (50 : TypeId) (0, 0))) := (hb.block _ (row_lt HG12.out)).trans HG12.out; clear hb HB12 HG12  HF1
  refine hK.out _ _ (range_of HG13.out) (fun hHeld => ?_)
  clear hK K
  try simp only [Act.put, List.setIfInBounds_toArray, List.set_cons_zero, List.set_cons_succ]
  refine move_at 49 (oi := { dst := some 81, op := Go.Op.call { callee := Go.Callee.value (Go.Operand.func 36), args := #[Go.Operand.tmp 80, Go.Operand.const (Go.Value.int Go.IntKind.i64 1)], argTypes := #[50, 3] }, type := 50, pos := "law.go:108", after := #[{ on := 48, ground := Go.Ground.data }, { on := 47, ground := Go.Ground.chain }, { on := 45, ground := Go.Ground.guard }], guard := some (45, true) }) rfl (by kernel_rfl) (by rfl) (fun K hK => ?_)
  go_simp
  go_at_call 36; refine (HF2.out _).mono ?_; rintro e w14 ⟨rfl, hb⟩; have HB14 : Hid (Below w.heap.size w w14) := Below.next HB13.out hb; have HG14 : Hid (w14.heap[w.heap.size]? = some (.cells ys.toArray (50 : TypeId) (0, 0))) := (hb.block _ (row_lt HG13.out)).trans HG13.out; clear hb HB13 HG13  HF2
  refine hK.out _ _ (range_of HG14.out) (fun hHeld => ?_)
  clear hK K
  try simp only [Act.put, List.setIfInBounds_toArray, List.set_cons_zero, List.set_cons_succ]
  refine take_at 50 82 (v := ?_) rfl rfl (by kernel_rfl) (by kernel_rfl) (by kernel_rfl) (fun _ _ _ h => h) (by rfl) (by assumption) (fun w hSw => ?_) ?_
  rotate_left
  · (try dsimp only at hSw); clear hSw; go_simp; first | done | with_reducible rfl
  try simp only [Act.put, List.setIfInBounds_toArray, List.set_cons_zero, List.set_cons_succ]
  refine take_at 51 83 (v := ?_) rfl rfl (by kernel_rfl) (by kernel_rfl) (by kernel_rfl) (fun _ _ _ h => h) (by rfl) (by assumption) (fun w hSw => ?_) ?_
  rotate_left
  · (try dsimp only at hSw); clear hSw; go_simp; first | done | with_reducible rfl
  try simp only [Act.put, List.setIfInBounds_toArray, List.set_cons_zero, List.set_cons_succ]
  refine take_at 52 84 (v := ?_) rfl rfl (by kernel_rfl) (by kernel_rfl) (by kernel_rfl) (fun _ _ _ h => h) (by rfl) (by assumption) (fun w hSw => ?_) ?_
  rotate_left
  · (try dsimp only at hSw); clear hSw; go_simp; first | done | with_reducible rfl
  try simp only [Act.put, List.setIfInBounds_toArray, List.set_cons_zero, List.set_cons_succ]
  refine load_at 53 85 50 (.tmp 5) w.heap.size 0 ys _ rfl rfl (by kernel_rfl) (by kernel_rfl) (by kernel_rfl) (fun _ _ _ h => h) (by rfl) rfl rfl (by assumption) (fun _ h => h) hu50 rfl hi50 ?_
  try simp only [Act.put, List.setIfInBounds_toArray, List.set_cons_zero, List.set_cons_succ]
  refine load_at 55 87 50 (.tmp 5) w.heap.size 0 ys _ rfl rfl (by kernel_rfl) (by kernel_rfl) (by kernel_rfl) (fun _ _ _ h => h) (by rfl) rfl rfl (by assumption) (fun _ h => h) hu50 rfl hi50 ?_
  try simp only [Act.put, List.setIfInBounds_toArray, List.set_cons_zero, List.set_cons_succ]
  refine move_at 54 (oi := { dst := some 86, op := Go.Op.call { callee := Go.Callee.value (Go.Operand.func 37), args := #[Go.Operand.tmp 85], argTypes := #[50] }, type := 50, pos := "law.go:108", after := #[{ on := 53, ground := Go.Ground.data }, { on := 52, ground := Go.Ground.chain }, { on := 52, ground := Go.Ground.guard }], guard := some (52, true) }) rfl (by kernel_rfl) (by rfl) (fun K hK => ?_)
  go_simp
  go_at_call 37; refine (HF3.out _).mono ?_; rintro e w15 ⟨rfl, hb⟩; have HB15 : Hid (Below w.heap.size w w15) := Below.next HB14.out hb; have HG15 : Hid (w15.heap[w.heap.size]? = some (.cells ys.toArray (50 : TypeId) (0, 0))) := (hb.block _ (row_lt HG14.out)).trans HG14.out; clear hb HB14 HG14  HF3
  refine hK.out _ _ (range_of HG15.out) (fun hHeld => ?_)
  clear hK K
  try simp only [Act.put, List.setIfInBounds_toArray, List.set_cons_zero, List.set_cons_succ]
  refine move_at 56 (oi := { dst := some 88, op := Go.Op.call { callee := Go.Callee.value (Go.Operand.func 36), args := #[Go.Operand.tmp 87, Go.Operand.const (Go.Value.int Go.IntKind.i64 (-1))], argTypes := #[50, 3] }, type := 50, pos := "law.go:108", after := #[{ on := 55, ground := Go.Ground.data }, { on := 54, ground := Go.Ground.chain }, { on := 52, ground := Go.Ground.guard }], guard := some (52, true) }) rfl (by kernel_rfl) (by rfl) (fun K hK => ?_)
  go_simp
  go_at_call 36; refine (HF4.out _).mono ?_; rintro e w16 ⟨rfl, hb⟩; have HB16 : Hid (Below w.heap.size w w16) := Below.next HB15.out hb; have HG16 : Hid (w16.heap[w.heap.size]? = some (.cells ys.toArray (50 : TypeId) (0, 0))) := (hb.block _ (row_lt HG15.out)).trans HG15.out; clear hb HB15 HG15  HF4
  refine hK.out _ _ (range_of HG16.out) (fun hHeld => ?_)
  clear hK K
  try simp only [Act.put, List.setIfInBounds_toArray, List.set_cons_zero, List.set_cons_succ]
  refine take_at 57 89 (v := ?_) rfl rfl (by kernel_rfl) (by kernel_rfl) (by kernel_rfl) (fun _ _ _ h => h) (by rfl) (by assumption) (fun w hSw => ?_) ?_
  rotate_left
  · (try dsimp only at hSw); clear hSw; go_simp; first | done | with_reducible rfl
  try simp only [Act.put, List.setIfInBounds_toArray, List.set_cons_zero, List.set_cons_succ]
  refine take_at 58 90 (v := ?_) rfl rfl (by kernel_rfl) (by kernel_rfl) (by kernel_rfl) (fun _ _ _ h => h) (by rfl) (by assumption) (fun w hSw => ?_) ?_
  rotate_left
  · (try dsimp only at hSw); clear hSw; go_simp; first | done | with_reducible rfl
  try simp only [Act.put, List.setIfInBounds_toArray, List.set_cons_zero, List.set_cons_succ]
  refine take_at 59 91 (v := ?_) rfl rfl (by kernel_rfl) (by kernel_rfl) (by kernel_rfl) (fun _ _ _ h => h) (by rfl) (by assumption) (fun w hSw => ?_) ?_
  rotate_left
  · (try dsimp only at hSw); clear hSw; go_simp; first | done | with_reducible rfl
  try simp only [Act.put, List.setIfInBounds_toArray, List.set_cons_zero, List.set_cons_succ]
  refine load_at 60 92 50 (.tmp 5) w.heap.size 0 ys _ rfl rfl (by kernel_rfl) (by kernel_rfl) (by kernel_rfl) (fun _ _ _ h => h) (by rfl) rfl rfl (by assumption) (fun _ h => h) hu50 rfl hi50 ?_
  try simp only [Act.put, List.setIfInBounds_toArray, List.set_cons_zero, List.set_cons_succ]
  refine load_at 63 95 50 (.tmp 5) w.heap.size 0 ys _ rfl rfl (by kernel_rfl) (by kernel_rfl) (by kernel_rfl) (fun _ _ _ h => h) (by rfl) rfl rfl (by assumption) (fun _ h => h) hu50 rfl hi50 ?_
  try simp only [Act.put, List.setIfInBounds_toArray, List.set_cons_zero, List.set_cons_succ]
  refine move_at 61 (oi := { dst := some 93, op := Go.Op.call { callee := Go.Callee.value (Go.Operand.func 35), args := #[Go.Operand.tmp 92], argTypes := #[50] }, type := 50, pos := "law.go:108", after := #[{ on := 60, ground := Go.Ground.data }, { on := 59, ground := Go.Ground.chain }, { on := 59, ground := Go.Ground.guard }], guard := some (59, true) }) rfl (by kernel_rfl) (by rfl) (fun K hK => ?_)
  go_simp
  go_at_call 35; refine (HF6.out _).mono ?_; rintro e w17 ⟨rfl, hb⟩; have HB17 : Hid (Below w.heap.size w w17) := Below.next HB16.out hb; have HG17 : Hid (w17.heap[w.heap.size]? = some (.cells ys.toArray (50 : TypeId) (0, 0))) := (hb.block _ (row_lt HG16.out)).trans HG16.out; clear hb HB16 HG16  HF6
  refine hK.out _ _ (range_of HG17.out) (fun hHeld => ?_)
  clear hK K
  try simp only [Act.put, List.setIfInBounds_toArray, List.set_cons_zero, List.set_cons_succ]
  refine move_at 62 (oi := { dst := some 94, op := Go.Op.call { callee := Go.Callee.value (Go.Operand.func 37), args := #[Go.Operand.tmp 93], argTypes := #[50] }, type := 50, pos := "law.go:108", after := #[{ on := 61, ground := Go.Ground.data }, { on := 61, ground := Go.Ground.chain }, { on := 59, ground := Go.Ground.guard }], guard := some (59, true) }) rfl (by kernel_rfl) (by rfl) (fun K hK => ?_)
  go_simp
  go_at_call 37; refine (HF5.out _).mono ?_; rintro e w18 ⟨rfl, hb⟩; have HB18 : Hid (Below w.heap.size w w18) := Below.next HB17.out hb; have HG18 : Hid (w18.heap[w.heap.size]? = some (.cells ys.toArray (50 : TypeId) (0, 0))) := (hb.block _ (row_lt HG17.out)).trans HG17.out; clear hb HB17 HG17  HF5
  refine hK.out _ _ (range_of HG18.out) (fun hHeld => ?_)
  clear hK K
  try simp only [Act.put, List.setIfInBounds_toArray, List.set_cons_zero, List.set_cons_succ]
  refine take_at 64 96 (v := ?_) rfl rfl (by kernel_rfl) (by kernel_rfl) (by kernel_rfl) (fun _ _ _ h => h) (by rfl) (by assumption) (fun w hSw => ?_) ?_
  rotate_left
  · (try dsimp only at hSw); clear hSw; go_simp; first | done | with_reducible rfl
  try simp only [Act.put, List.setIfInBounds_toArray, List.set_cons_zero, List.set_cons_succ]
  refine take_at 65 97 (v := ?_) rfl rfl (by kernel_rfl) (by kernel_rfl) (by kernel_rfl) (fun _ _ _ h => h) (by rfl) (by assumption) (fun w hSw => ?_) ?_
  rotate_left
  · (try dsimp only at hSw); clear hSw; go_simp; first | done | with_reducible rfl
  try simp only [Act.put, List.setIfInBounds_toArray, List.set_cons_zero, List.set_cons_succ]
  refine take_at 66 98 (v := ?_) rfl rfl (by kernel_rfl) (by kernel_rfl) (by kernel_rfl) (fun _ _ _ h => h) (by rfl) (by assumption) (fun w hSw => ?_) ?_
  rotate_left
  · (try dsimp only at hSw); clear hSw; go_simp; first | done | with_reducible rfl
  try simp only [Act.put, List.setIfInBounds_toArray, List.set_cons_zero, List.set_cons_succ]
  refine move_at 67 (oi := { dst := some 99, op := Go.Op.call { callee := Go.Callee.value (Go.Operand.func 10), args := #[], argTypes := #[] }, type := 4, pos := "law.go:108", after := #[{ on := 66, ground := Go.Ground.chain }, { on := 66, ground := Go.Ground.guard }], guard := some (66, true) }) rfl (by kernel_rfl) (by rfl) (fun K hK => ?_)
  go_simp
  go_at_call 10; refine (HAV.out _).mono ?_; rintro e w19 ⟨rfl, hb⟩; have HB19 : Hid (Below w.heap.size w w19) := Below.next HB18.out hb; have HG19 : Hid (w19.heap[w.heap.size]? = some (.cells ys.toArray (50 : TypeId) (0, 0))) := (hb.block _ (row_lt HG18.out)).trans HG18.out; clear hb HB18 HG18  
  refine hK.out _ _ (range_of HG19.out) (fun hHeld => ?_)
  clear hK K
  try simp only [Act.put, List.setIfInBounds_toArray, List.set_cons_zero, List.set_cons_succ]
  refine take_at 68 100 (v := ?_) rfl rfl (by kernel_rfl) (by kernel_rfl) (by kernel_rfl) (fun _ _ _ h => h) (by rfl) (by assumption) (fun w hSw => ?_) ?_
  rotate_left
  · (try dsimp only at hSw); clear hSw; go_simp; first | done | with_reducible rfl
  try simp only [Act.put, List.setIfInBounds_toArray, List.set_cons_zero, List.set_cons_succ]
  refine take_at 69 6 (v := ?_) rfl rfl (by kernel_rfl) (by kernel_rfl) (by kernel_rfl) (fun _ _ _ h => h) (by rfl) (by assumption) (fun w hSw => ?_) ?_
  rotate_left
  · (try dsimp only at hSw); clear hSw; go_simp; first | done | with_reducible rfl
  try simp only [Act.put, List.setIfInBounds_toArray, List.set_cons_zero, List.set_cons_succ]
  refine wpAnyH_done (by kernel_rfl) ?_ _
  go_wp2_with fail
  go_ret
  exact ⟨rfl, HB19.out⟩
end Go.Proofs.Ytgefampdfhbmbaa
