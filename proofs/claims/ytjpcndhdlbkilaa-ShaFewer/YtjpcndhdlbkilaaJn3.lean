/- What Expand of sha answers. -/
import Derived.Test.YtjpcndhdlbkilaaJn2
namespace Go.Proofs.Ytjpcndhdlbkilaa
open Go.RowKit
set_option linter.unusedVariables false

theorem Try.zero22z : (Try.prog.info? 22).map (fun i => (i.zero, i.size)) = some (some (.slice none 0 0), 1) := by kernel_rfl
set_option maxRecDepth 100000 in
theorem expand_bad (x : Int) (key : Value) (aI : Option Addr) (lI cI : Nat) (z : Int) (e1 : Int) (h : (e1 = 1 ∧ x ≠ 224 ∧ x ≠ 256 ∧ x ≠ 384 ∧ x ≠ 512) ∨ (∃ k : Nat, Kind k ∧ x = (k : Int) ∧ ((e1 = 1 ∧ z < 0) ∨ (e1 = 3 ∧ ¬ z < 0 ∧ 255 * ((k / 8 : Nat) : Int) < z)))) (w : World) : Calls Try.prog 19 #[.int .i64 x, key, .slice aI lI cI, .int .i64 z] w fun e w' => e = .returned (.tuple #[.slice none 0 0, .int .i64 e1]) ∧ Below w.heap.size w w' := by
  have HB : Hid (Below w.heap.size w (w.alloc (.cells #[.slice aI lI cI] (22 : TypeId)))) := (Below.refl _ _).alloc (Nat.le_refl _) _
  rcases h with ⟨rfl, hx⟩ | ⟨k, hk, rfl, ⟨rfl, hz⟩ | ⟨rfl, hz, hz2⟩⟩
  · have HSZ : Hid (∀ w, Calls Try.prog 17 #[.int .i64 x] w fun e w' => e = .returned (.tuple #[.int .i64 0, .int .i64 0, .int .i64 1]) ∧ w' = w) := fun w => size_no x hx w
    clear hx
    go_enter Try.func19, Try.ntmps19
    go_wp2_with (go_at_call 17; refine (HSZ.out _).mono ?_; rintro e wx ⟨rfl, hx⟩; subst wx)
    go_ret2
    exact ⟨rfl, HB.out⟩
  · have HSZ : Hid (∀ w, Calls Try.prog 17 #[.int .i64 (k : Int)] w fun e w' => e = .returned (.tuple #[.int .i64 ((k / 8 : Nat) : Int), .int .i64 (blkN k : Int), .int .i64 0]) ∧ w' = w) := fun w => size_any k hk w
    generalize k / 8 = K8 at *
    generalize blkN k = BK at *
    go_enter Try.func19, Try.ntmps19
    go_wp2_with (go_at_call 17; refine (HSZ.out _).mono ?_; rintro e wx ⟨rfl, hx⟩; subst wx)
    go_ret2
    exact ⟨rfl, HB.out⟩
  · have HSZ : Hid (∀ w, Calls Try.prog 17 #[.int .i64 (k : Int)] w fun e w' => e = .returned (.tuple #[.int .i64 ((k / 8 : Nat) : Int), .int .i64 (blkN k : Int), .int .i64 0]) ∧ w' = w) := fun w => size_any k hk w
    have hk8 : k / 8 ≤ 64 := by have := hk.le; omega
    generalize k / 8 = K8 at *
    generalize blkN k = BK at *
    go_enter Try.func19, Try.ntmps19
    go_wp2_with (go_at_call 17; refine (HSZ.out _).mono ?_; rintro e wx ⟨rfl, hx⟩; subst wx)
    go_ret2
    exact ⟨rfl, HB.out⟩
set_option maxRecDepth 100000 in
set_option maxHeartbeats 1600000 in
theorem expand_ok (k : Nat) (hk : Kind k) (key info : List UInt8) (hKl : key.length ≤ 4611686018427387904) (hIl : info.length ≤ 4611686018427387904) (n : Nat) (hn : n ≤ 255 * (k / 8)) (aK aI : Option Addr) (cK cI : Nat) (w : World) (hbK : ByAt w (.slice aK key.length cK) key) (hbI : ByAt w (.slice aI info.length cI) info) : Calls Try.prog 19 #[.int .i64 (k : Int), .slice aK key.length cK, .slice aI info.length cI, .int .i64 (n : Int)] w fun e w' => ∃ g, e = .returned (.tuple #[.slice (some ⟨g, 0, none⟩) n n, .int .i64 0]) ∧ w.heap.size ≤ g ∧ RowZ w' g .u8 n 5 (fun i => ((sbS (k / 8) (exT k key info) i).toNat : Int)) ∧ Below w.heap.size w w' := by
  have HSZ : Hid (∀ w, Calls Try.prog 17 #[.int .i64 (k : Int)] w fun e w' => e = .returned (.tuple #[.int .i64 ((k / 8 : Nat) : Int), .int .i64 (blkN k : Int), .int .i64 0]) ∧ w' = w) := fun w => size_any k hk w
  have HNK : Hid (∀ w, ByAt w (.slice aK key.length cK) key → Calls Try.prog 34 #[.int .i64 (k : Int), .slice aK key.length cK] w fun e w' => ∃ g1 g2, e = .returned (.tuple #[.agg #[.pointer (some ⟨g1, 0, none⟩), .pointer (some ⟨g2, 0, none⟩)], .int .i64 0]) ∧ w.heap.size ≤ g1 ∧ w.heap.size ≤ g2 ∧ g1 ≠ g2 ∧ StAt w' g1 k (keyP k key 54) ∧ StAt w' g2 k (keyP k key 92) ∧ Below w.heap.size w w') := fun w h => newKeyed_any k hk key hKl aK cK w h
  have HJN : Hid (∀ (gK gL gI g1 g2 : Nat) (w : World), gK ≠ gL ∧ gI ≠ gL ∧ g1 ≠ gL ∧ g2 ≠ gL → (info ≠ [] → Off (.slice aI info.length cI) gL) → w.heap[gK]? = some (.cells #[.pointer (some ⟨g1, 0, none⟩), .pointer (some ⟨g2, 0, none⟩)] (75 : TypeId) (0, 0)) → StAt w g1 k (keyP k key 54) → StAt w g2 k (keyP k key 92) → w.heap[gI]? = some (.cells #[.slice aI info.length cI] (22 : TypeId) (0, 0)) → ByAt w (.slice aI info.length cI) info → w.heap[gL]? = some (.cells #[.slice none 0 0] (22 : TypeId) (0, 0)) → Calls Try.prog 36 #[.int .i64 (n : Int), .func (.func 37) #[] #[.pointer (some ⟨gK, 0, none⟩), .pointer (some ⟨gL, 0, none⟩), .pointer (some ⟨gI, 0, none⟩)]] w fun e w' => ∃ g, e = .returned (.slice (some ⟨g, 0, none⟩) n n) ∧ w.heap.size ≤ g ∧ RowZ w' g .u8 n 5 (fun i => ((sbS (k / 8) (exT k key info) i).toNat : Int)) ∧ But gL w w') := fun gK gL gI g1 g2 w h1 h2 h3 h4 h5 h6 h7 h8 => joined_expand k hk key info hIl n hn gK gL gI g1 g2 aI cI h1 w h2 h3 h4 h5 h6 h7 h8
  have hk8 : k / 8 ≤ 64 := by have := hk.le; omega
  have hnn : ¬ 255 * ((k / 8 : Nat) : Int) < (n : Int) := by omega
  obtain ⟨hz, hsz⟩ := zero_of_info Try.zero75z
  have HI : Hid (∀ x y : Value, (Try.prog.info? 75).map (·.size) = some (#[x, y] : Array Value).size) := fun _ _ => hsz
  obtain ⟨hz2, hsz2⟩ := zero_of_info Try.zero22z
  have W0 : Hid ((w.alloc (.cells #[.slice aI info.length cI] (22 : TypeId))).heap[w.heap.size]? = some (.cells #[.slice aI info.length cI] (22 : TypeId) (0, 0))) := heap_alloc_last _ _
  have B0 : Hid (Below w.heap.size w (w.alloc (.cells #[.slice aI info.length cI] (22 : TypeId)))) := (Below.refl _ _).alloc (Nat.le_refl _) _
  have YK := hidD hbK
  have YI := hidD hbI
  clear hsz hsz2 hbK hbI hn
  generalize hSB : sbS (k / 8) (exT k key info) = SB at *
  clear hSB
  generalize k / 8 = K8 at *
  generalize blkN k = BK at *
  generalize key.length = LK at *
  generalize info.length = LI at *
  go_enter Try.func19, Try.ntmps19
  go_wp2_with (go_at_call 17; refine (HSZ.out _).mono ?_; rintro e wx ⟨rfl, hx⟩; subst wx)
  go_at_call 34
  refine (HNK.out _ (YK.out.next B0.out)).mono ?_
  rintro e w1 ⟨g1, g2, rfl, hg1, hg2, hne, hs1, hs2, hx1⟩
  go_upto_region 9 with (refine wpList_store_row rfl 75 _ _ rfl w1.heap.size #[.pointer (some ⟨g1, 0, none⟩), .pointer (some ⟨g2, 0, none⟩)] rfl rfl 75 #[.pointer none, .pointer none] (heap_alloc_last _ _) (HI.out _ _) rfl (by simp [Value.oneCell']) ?_)
  obtain ⟨W2, hW2⟩ : ∃ W2 : World, W2 = (w1.alloc (.cells #[.pointer none, .pointer none] (75 : TypeId))).setRow w1.heap.size #[.pointer (some ⟨g1, 0, none⟩), .pointer (some ⟨g2, 0, none⟩)] := ⟨_, rfl⟩
  refine at_world hW2 ?_
  have hx2 : Below w1.heap.size w1 W2 := by rw [hW2]; exact below_setRow ((Below.refl _ _).alloc (Nat.le_refl _) _) (Nat.le_refl _) _
  have R2 : Hid (W2.heap[w1.heap.size]? = some (.cells #[.pointer (some ⟨g1, 0, none⟩), .pointer (some ⟨g2, 0, none⟩)] (75 : TypeId) (0, 0))) := by show _ = _; rw [hW2]; exact setRow_heap _ _ _ _ _ _ (heap_alloc_last _ _)
  have S2 := hidD (hs1.next hx2)
  have T2 := hidD (hs2.next hx2)
  have hx12 := Below.next hx1 hx2
  have I2 := hidD ((hx12.block _ (row_lt W0.out)).trans W0.out)
  have B2 := hidD (Below.next B0.out hx12)
  have Y2 := hidD (YI.out.next (Below.next B0.out hx12))
  clear hs1 hs2 hx1 hx2 hx12 hg1 hg2 hne hW2 HNK YK
  generalize hgR : w1.heap.size = gK at *
  clear hgR
  go_upto_region 10 with fail
  obtain ⟨W3, hW3⟩ : ∃ W3 : World, W3 = W2.alloc (.cells #[.slice none 0 0] (22 : TypeId)) := ⟨_, rfl⟩
  refine at_world hW3 ?_
  have hx3 : Below W2.heap.size W2 W3 := by rw [hW3]; exact (Below.refl _ _).alloc (Nat.le_refl _) _
  have L3 : Hid (W3.heap[W2.heap.size]? = some (.cells #[.slice none 0 0] (22 : TypeId) (0, 0))) := by show _ = _; rw [hW3]; exact heap_alloc_last _ _
  have V3 := hidD (HJN.out gK W2.heap.size w.heap.size g1 g2 W3 ⟨by have := row_lt R2.out; omega, by have := row_lt I2.out; omega, by have := S2.out.lt; omega, by have := T2.out.lt; omega⟩ (by_off Y2.out (Nat.le_refl _)) ((hx3.block _ (row_lt R2.out)).trans R2.out) (S2.out.next hx3) (T2.out.next hx3) ((hx3.block _ (row_lt I2.out)).trans I2.out) (Y2.out.next hx3) L3.out)
  have B3 := hidD (Below.next B2.out hx3)
  have G3 : Hid (w.heap.size ≤ W2.heap.size) := B2.out.size
  clear hx3 hW3 R2 S2 T2 I2 Y2 L3 HJN
  generalize hgL : W2.heap.size = gL at *
  clear hgL
  go_wp2_with fail
  go_at_call 36
  refine V3.out.mono ?_
  rintro e w4 ⟨g4, rfl, hg4, hr4, hx4⟩
  have HF : Hid (w.heap.size ≤ g4 ∧ RowZ w4 g4 .u8 n 5 (fun i => ((SB i).toNat : Int)) ∧ Below w.heap.size w w4) := ⟨Nat.le_trans B3.out.size hg4, hr4, B3.out.trans (hx4.bel.mono G3.out)⟩
  clear hg4 hr4 hx4 V3
  go_wp2_with fail
  go_ret2
  exact ⟨g4, rfl, HF.out⟩
end Go.Proofs.Ytjpcndhdlbkilaa
