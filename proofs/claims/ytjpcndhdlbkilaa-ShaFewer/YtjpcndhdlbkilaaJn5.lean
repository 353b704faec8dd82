/- What Stretch's closure and Stretch of sha answer. -/
import Derived.Test.YtjpcndhdlbkilaaJn3
import Derived.Test.YtjpcndhdlbkilaaJn4
namespace Go.Proofs.Ytjpcndhdlbkilaa
open Go.RowKit
set_option linter.unusedVariables false

def stF (k : Nat) (key salt : List UInt8) (i : Nat) : List UInt8 := mkL k key (salt ++ [0, 0, 0, UInt8.ofNat i])
def stT (k : Nat) (key salt : List UInt8) (r : Nat) (i : Nat) : List UInt8 := (List.range (k / 8)).map (fdS k key (stF k key salt i) r)
theorem stT_len (k : Nat) (key salt : List UInt8) (r i : Nat) : (stT k key salt r i).length = k / 8 := by simp [stT]
set_option maxRecDepth 100000 in
set_option maxHeartbeats 1600000 in
theorem stretch1_any (k : Nat) (hk : Kind k) (key salt : List UInt8) (hS : salt.length ≤ 4611686018427387904) (r : Nat) (hr : r ≤ 1023) (gK gS gR g1 g2 : Nat) (i : Nat) (hi : i < 255) (aS : Option Addr) (cS : Nat) (a : World) (hK : a.heap[gK]? = some (.cells #[.pointer (some ⟨g1, 0, none⟩), .pointer (some ⟨g2, 0, none⟩)] (75 : TypeId) (0, 0))) (hs1 : StAt a g1 k (keyP k key 54)) (hs2 : StAt a g2 k (keyP k key 92)) (hgS : a.heap[gS]? = some (.cells #[.slice aS salt.length cS] (22 : TypeId) (0, 0))) (hbS : ByAt a (.slice aS salt.length cS) salt) (hgR : a.heap[gR]? = some (.cells #[.int .i64 ((r : Int) + 1)] (3 : TypeId) (0, 0))) : Calls Try.prog 38 #[.int .i64 ((i + 1 : Nat) : Int), .pointer (some ⟨gK, 0, none⟩), .pointer (some ⟨gS, 0, none⟩), .pointer (some ⟨gR, 0, none⟩)] a fun e b => ∃ gN, e = .returned (.slice (some ⟨gN, 0, none⟩) (k / 8) (k / 8)) ∧ a.heap.size ≤ gN ∧ RowZ b gN .u8 (k / 8) 5 (fun j => ((fdS k key (stF k key salt (i + 1)) r j).toNat : Int)) ∧ Below a.heap.size a b := by
  have hbyte : ((UInt8.ofNat (i + 1)).toNat : Int) = (i : Int) + 1 := by rw [UInt8.toNat_ofNat', Nat.mod_eq_of_lt (by omega)]; omega
  have HMC : Hid (∀ (gB gP : Nat) (w : World), StAt w g1 k (keyP k key 54) → StAt w g2 k (keyP k key 92) → w.heap[gB]? = some (.cells #[.int .u8 0, .int .u8 0, .int .u8 0, .int .u8 ((UInt8.ofNat (i + 1)).toNat : Int)] (5 : TypeId) (0, 0)) → w.heap[gP]? = some (.cells #[.slice aS salt.length cS, .slice (some ⟨gB, 0, none⟩) 4 4] (22 : TypeId) (0, 0)) → ByAt w (.slice aS salt.length cS) salt → Calls Try.prog 35 #[.agg #[.pointer (some ⟨g1, 0, none⟩), .pointer (some ⟨g2, 0, none⟩)], .slice (some ⟨gP, 0, none⟩) 2 2] w fun e w' => ∃ g', e = .returned (.slice (some ⟨g', 0, none⟩) (k / 8) (k / 8)) ∧ ByAt w' (.slice (some ⟨g', 0, none⟩) (k / 8) (k / 8)) (stF k key salt (i + 1)) ∧ Below w.heap.size w w') := fun gB gP w h1 h2 h3 h4 h5 => by
    have := mac_any k hk (keyP k key 54) (keyP k key 92) (keyP_n k key 54) (keyP_c k hk key 54) (keyP_n k key 92) (keyP_c k hk key 92) g1 g2 [salt, [0, 0, 0, UInt8.ofNat (i + 1)]] (fun j => by
      match j with
      | 0 => exact hS
      | 1 => exact (by decide : 4 ≤ 4611686018427387904)
      | j + 2 => simp) (by simp) (.slice (some ⟨gP, 0, none⟩) 2 2) w h1 h2 ⟨gP, 0, 2, rfl, row_lt h4, fun j hj => by
        rcases (show j = 0 ∨ j = 1 by simp at hj; omega) with rfl | rfl
        · exact ⟨aS, cS, by rw [cell_of_row _ _ _ _ _ _ h4]; rfl, h5⟩
        · exact ⟨some ⟨gB, 0, none⟩, 4, by rw [cell_of_row _ _ _ _ _ _ h4]; rfl, .inr ⟨gB, 0, 4, rfl, row_lt h3, fun j hj => by
            rcases (show j = 0 ∨ j = 1 ∨ j = 2 ∨ j = 3 by simp at hj; omega) with rfl | rfl | rfl | rfl <;> (rw [cell_of_row _ _ _ _ _ _ h3]; rfl)⟩⟩⟩
    rw [show [salt, [0, 0, 0, UInt8.ofNat (i + 1)]].flatten = salt ++ [0, 0, 0, UInt8.ofNat (i + 1)] by simp] at this
    refine this.mono fun e w' ⟨g', q1, q2, q3, q4⟩ => ⟨g', q1, ?_, q4⟩
    have := rowZ_by q3
    rw [List.length_map, List.length_range] at this
    exact this
  have HFD : Hid (∀ (gF : Nat) (w : World), StAt w g1 k (keyP k key 54) → StAt w g2 k (keyP k key 92) → ByAt w (.slice (some ⟨gF, 0, none⟩) (k / 8) (k / 8)) (stF k key salt (i + 1)) → Calls Try.prog 39 #[.agg #[.pointer (some ⟨g1, 0, none⟩), .pointer (some ⟨g2, 0, none⟩)], .slice (some ⟨gF, 0, none⟩) (k / 8) (k / 8), .int .i64 ((r : Int) + 1)] w fun e w' => ∃ g, e = .returned (.slice (some ⟨g, 0, none⟩) (k / 8) (k / 8)) ∧ w.heap.size ≤ g ∧ RowZ w' g .u8 (k / 8) 5 (fun j => ((fdS k key (stF k key salt (i + 1)) r j).toNat : Int)) ∧ Below w.heap.size w w') := fun gF w h1 h2 h3 => folded_any k hk key _ (mkL_len _ _ _) r (by omega) g1 g2 gF w h1 h2 h3
  obtain ⟨hz, hsz⟩ := zero_of_info Try.zero75z
  have HI : Hid ((Try.prog.info? 75).map (·.size) = some (#[.pointer (some ⟨g1, 0, none⟩), .pointer (some ⟨g2, 0, none⟩)] : Array Value).size) := hsz
  have HK := hidD hK
  have S1 := hidD hs1
  have S2 := hidD hs2
  have YS := hidD hbS
  have RR := hidD hgR
  obtain ⟨cs, _⟩ := cell1 hgS
  have hi1 : (i : Int) + 1 ≤ 255 := by omega
  have hcast : ((i + 1 : Nat) : Int) = (i : Int) + 1 := by omega
  have h24 : ((i : Int) + 1) / 16777216 = 0 := by omega
  have h16 : ((i : Int) + 1) / 65536 = 0 := by omega
  have h8 : ((i : Int) + 1) / 256 = 0 := by omega
  rw [hcast]
  rw [hbyte] at HMC
  clear hK hs1 hs2 hgS hbS hgR hsz hcast hz hbyte
  generalize hMM : fdS k key (stF k key salt (i + 1)) r = MM at *
  clear hMM
  generalize hST : stF k key salt (i + 1) = ST at *
  clear hST
  generalize salt.length = LS at *
  generalize k / 8 = K8 at *
  go_enter Try.func38, Try.ntmps38
  go_wp2_with (refine wpList_load_row rfl 75 _ rfl gK rfl 75 #[.pointer (some ⟨g1, 0, none⟩), .pointer (some ⟨g2, 0, none⟩)] (0, 0) _ HK.out Try.underlying75 rfl HI.out ?_)
  go_at_call 35
  obtain ⟨t1, t2, t3, t4⟩ := two_blocks2 a #[.int .u8 0, .int .u8 0, .int .u8 0, .int .u8 ((i : Int) + 1)] #[.slice aS LS cS, .slice (some ⟨a.heap.size, 0, none⟩) 4 4] 5 22
  have V := hidD (HMC.out a.heap.size (a.heap.size + 1) _ (S1.out.next t3) (S2.out.next t3) t1 t2 (YS.out.next t3))
  have B1 := hidD t3
  clear t1 t2 t3 t4 HMC
  refine V.out.mono ?_
  rintro e w2 ⟨gA, rfl, hyA, hx2⟩
  have B2 := hidD (Below.next B1.out hx2)
  have V2 := hidD (HFD.out gA w2 (S1.out.next B2.out) (S2.out.next B2.out) hyA)
  have HK2 := hidD ((B2.out.block _ (row_lt HK.out)).trans HK.out)
  obtain ⟨cr, _⟩ := cell1 ((B2.out.block _ (row_lt RR.out)).trans RR.out)
  clear hyA hx2 V B1 cs
  go_wp2_with (refine wpList_load_row rfl 75 _ rfl gK rfl 75 #[.pointer (some ⟨g1, 0, none⟩), .pointer (some ⟨g2, 0, none⟩)] (0, 0) _ HK2.out Try.underlying75 rfl HI.out ?_)
  go_at_call 39
  refine V2.out.mono ?_
  rintro e w3 ⟨gN, rfl, hgN, hrN, hx3⟩
  have HF : Hid (a.heap.size ≤ gN ∧ RowZ w3 gN .u8 K8 5 (fun j => ((MM j).toNat : Int)) ∧ Below a.heap.size a w3) := ⟨Nat.le_trans B2.out.size hgN, hrN, Below.next B2.out hx3⟩
  clear hgN hrN hx3 V2
  go_wp2_with fail
  go_ret
  exact ⟨gN, rfl, HF.out⟩
/- what the closure of Stretch finds -/
def SsSt (k : Nat) (key salt : List UInt8) (r gK gS gR g1 g2 : Nat) (aS : Option Addr) (cS : Nat) (a : World) : Prop :=
  a.heap[gK]? = some (.cells #[.pointer (some ⟨g1, 0, none⟩), .pointer (some ⟨g2, 0, none⟩)] (75 : TypeId) (0, 0)) ∧ StAt a g1 k (keyP k key 54) ∧ StAt a g2 k (keyP k key 92) ∧ a.heap[gS]? = some (.cells #[.slice aS salt.length cS] (22 : TypeId) (0, 0)) ∧ ByAt a (.slice aS salt.length cS) salt ∧ a.heap[gR]? = some (.cells #[.int .i64 ((r : Int) + 1)] (3 : TypeId) (0, 0))
theorem joined_stretch (k : Nat) (hk : Kind k) (key salt : List UInt8) (hS : salt.length ≤ 4611686018427387904) (r : Nat) (hr : r ≤ 1023) (n : Nat) (hn : n ≤ 1024) (gK gS gR g1 g2 : Nat) (aS : Option Addr) (cS : Nat) (w : World) (h : SsSt k key salt r gK gS gR g1 g2 aS cS w) : Calls Try.prog 36 #[.int .i64 (n : Int), .func (.func 38) #[] #[.pointer (some ⟨gK, 0, none⟩), .pointer (some ⟨gS, 0, none⟩), .pointer (some ⟨gR, 0, none⟩)]] w fun e w' => ∃ g, e = .returned (.slice (some ⟨g, 0, none⟩) n n) ∧ w.heap.size ≤ g ∧ RowZ w' g .u8 n 5 (fun i => ((sbS (k / 8) (stT k key salt r) i).toNat : Int)) ∧ But gK w w' := by
  have hk8 : 28 ≤ k / 8 ∧ k / 8 ≤ 64 := by rcases hk with rfl | rfl | rfl | rfl <;> decide
  obtain ⟨q1, q2, q3, q4, q5, q6⟩ := h
  have o2 := by_off q5 (Nat.le_refl _)
  have l1 := row_lt q1
  have l2 := q2.lt
  have l3 := q3.lt
  have l4 := row_lt q4
  have l5 := row_lt q6
  refine joined38_any n (k / 8) (by omega) (by omega) hk8.2 (stT k key salt r) (fun i => stT_len _ _ _ _ _) _ _ _ gK w l1 (fun a _ => SsSt k key salt r gK gS gR g1 g2 aS cS a) (fun b hb => ?_) (fun i a b ha hsz hbut => ?_) (fun i hi a ha hsz => ?_)
  · exact ⟨(hb.block _ l1).trans q1, q2.next hb, q3.next hb, (hb.block _ l4).trans q4, q5.next hb, (hb.block _ l5).trans q6⟩
  · obtain ⟨h1, h2, h3, h4, h5, h6⟩ := ha
    exact ⟨(hbut.rest _ (row_lt h1) (by omega)).trans h1, h2.but hbut (by omega), h3.but hbut (by omega), (hbut.rest _ (row_lt h4) (by omega)).trans h4, h5.but' hbut o2, (hbut.rest _ (row_lt h6) (by omega)).trans h6⟩
  · obtain ⟨h1, h2, h3, h4, h5, h6⟩ := ha
    have hi255 : i < 255 := by
      rcases Nat.lt_or_ge i 255 with h | h
      · exact h
      · have := Nat.mul_le_mul h hk8.1; omega
    refine (stretch1_any k hk key salt hS r hr gK gS gR g1 g2 i hi255 aS cS a h1 h2 h3 h4 h5 h6).mono fun e b ⟨gN, p1, p2, p3, p4⟩ => ?_
    refine ⟨gN, k / 8, p1, Nat.le_refl _, p3.lt, fun j hj => ?_, ⟨(p4.block _ (row_lt h1)).trans h1, h2.next p4, h3.next p4, (p4.block _ (row_lt h4)).trans h4, h5.next p4, (p4.block _ (row_lt h6)).trans h6⟩, But.of p4 (by omega)⟩
    rw [p3.cell hj]
    show _ = some (Value.int .u8 (((stT k key salt r (i + 1)).getD j 0).toNat : Int))
    unfold stT
    simp [List.getD_eq_getElem?_getD, hj]
end Go.Proofs.Ytjpcndhdlbkilaa
