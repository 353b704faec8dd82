/- What Expand's closure and Expand of sha answer. -/
import Derived.Test.YtjpcndhdlbkilaaJn1
namespace Go.Proofs.Ytjpcndhdlbkilaa
open Go.RowKit
set_option linter.unusedVariables false

def mkL (k : Nat) (key M : List UInt8) : List UInt8 := (List.range (k / 8)).map (mkP k key M)
theorem mkL_len (k : Nat) (key M : List UInt8) : (mkL k key M).length = k / 8 := by simp [mkL]
theorem mkL_get (k : Nat) (key M : List UInt8) (j : Nat) (h : j < k / 8) : (mkL k key M).getD j 0 = mkP k key M j := by simp [mkL, List.getD_eq_getElem?_getD, h]
def exT (k : Nat) (key info : List UInt8) : Nat → List UInt8
  | 0 => []
  | i + 1 => mkL k key (exT k key info i ++ (info ++ [UInt8.ofNat (i + 1)]))
theorem exT_len (k : Nat) (key info : List UInt8) (i : Nat) : (exT k key info (i + 1)).length = k / 8 := mkL_len _ _ _
theorem cell1 {w : World} {g : Nat} {v : Value} {ty : TypeId} (h : w.heap[g]? = some (.cells #[v] ty (0, 0))) : w.cell? ⟨g, 0, none⟩ = some v ∧ w.frozen? ⟨g, 0, none⟩ = false := ⟨by rw [cell_of_row _ _ _ _ _ _ h]; rfl, frozen_of_row _ _ _ _ _ h⟩
set_option maxRecDepth 100000 in
set_option maxHeartbeats 1600000 in
theorem expand1_any (k : Nat) (hk : Kind k) (key info T : List UInt8) (hI : info.length ≤ 4611686018427387904) (hT : T.length ≤ 4611686018427387904) (gK gL gI g1 g2 : Nat) (i : Nat) (hi : i < 255) (aL aI : Option Addr) (cL cI : Nat) (a : World) (hK : a.heap[gK]? = some (.cells #[.pointer (some ⟨g1, 0, none⟩), .pointer (some ⟨g2, 0, none⟩)] (75 : TypeId) (0, 0))) (hs1 : StAt a g1 k (keyP k key 54)) (hs2 : StAt a g2 k (keyP k key 92)) (hgI : a.heap[gI]? = some (.cells #[.slice aI info.length cI] (22 : TypeId) (0, 0))) (hbI : ByAt a (.slice aI info.length cI) info) (hgL : a.heap[gL]? = some (.cells #[.slice aL T.length cL] (22 : TypeId) (0, 0))) (hbL : ByAt a (.slice aL T.length cL) T) : Calls Try.prog 37 #[.int .i64 ((i + 1 : Nat) : Int), .pointer (some ⟨gK, 0, none⟩), .pointer (some ⟨gL, 0, none⟩), .pointer (some ⟨gI, 0, none⟩)] a fun e b => ∃ gN, e = .returned (.slice (some ⟨gN, 0, none⟩) (k / 8) (k / 8)) ∧ a.heap.size ≤ gN ∧ RowZ b gN .u8 (k / 8) 5 (fun j => ((mkP k key (T ++ (info ++ [UInt8.ofNat (i + 1)])) j).toNat : Int)) ∧ b.heap[gL]? = some (.cells #[.slice (some ⟨gN, 0, none⟩) (k / 8) (k / 8)] (22 : TypeId) (0, 0)) ∧ But gL a b := by
  have hbyte : ((UInt8.ofNat (i + 1)).toNat : Int) = (i : Int) + 1 := by rw [UInt8.toNat_ofNat', Nat.mod_eq_of_lt (by omega)]; omega
  have HMC : Hid (∀ (gB gS : Nat) (w : World), StAt w g1 k (keyP k key 54) → StAt w g2 k (keyP k key 92) → w.heap[gB]? = some (.cells #[.int .u8 ((UInt8.ofNat (i + 1)).toNat : Int)] (5 : TypeId) (0, 0)) → w.heap[gS]? = some (.cells #[.slice aL T.length cL, .slice aI info.length cI, .slice (some ⟨gB, 0, none⟩) 1 1] (22 : TypeId) (0, 0)) → ByAt w (.slice aL T.length cL) T → ByAt w (.slice aI info.length cI) info → Calls Try.prog 35 #[.agg #[.pointer (some ⟨g1, 0, none⟩), .pointer (some ⟨g2, 0, none⟩)], .slice (some ⟨gS, 0, none⟩) 3 3] w fun e w' => ∃ g', e = .returned (.slice (some ⟨g', 0, none⟩) (k / 8) (k / 8)) ∧ w.heap.size ≤ g' ∧ RowZ w' g' .u8 (k / 8) 5 (fun j => ((mkP k key (T ++ (info ++ [UInt8.ofNat (i + 1)])) j).toNat : Int)) ∧ Below w.heap.size w w') := fun gB gS w h1 h2 h3 h4 h5 h6 => by
    have := mac_any k hk (keyP k key 54) (keyP k key 92) (keyP_n k key 54) (keyP_c k hk key 54) (keyP_n k key 92) (keyP_c k hk key 92) g1 g2 [T, info, [UInt8.ofNat (i + 1)]] (fun j => by
      match j with
      | 0 => exact hT
      | 1 => exact hI
      | 2 => exact (by decide : 1 ≤ 4611686018427387904)
      | j + 3 => simp) (by simp) (.slice (some ⟨gS, 0, none⟩) 3 3) w h1 h2 ⟨gS, 0, 3, rfl, row_lt h4, fun j hj => by
        rcases (show j = 0 ∨ j = 1 ∨ j = 2 by simp at hj; omega) with rfl | rfl | rfl
        · exact ⟨aL, cL, by rw [cell_of_row _ _ _ _ _ _ h4]; rfl, h5⟩
        · exact ⟨aI, cI, by rw [cell_of_row _ _ _ _ _ _ h4]; rfl, h6⟩
        · exact ⟨some ⟨gB, 0, none⟩, 1, by rw [cell_of_row _ _ _ _ _ _ h4]; rfl, .inr ⟨gB, 0, 1, rfl, row_lt h3, fun j hj => by
            obtain rfl : j = 0 := by simp at hj; exact hj
            rw [cell_of_row _ _ _ _ _ _ h3]; rfl⟩⟩⟩
    rw [show [T, info, [UInt8.ofNat (i + 1)]].flatten = T ++ (info ++ [UInt8.ofNat (i + 1)]) by simp] at this
    exact this
  obtain ⟨hz, hsz⟩ := zero_of_info Try.zero75z
  have HI : Hid ((Try.prog.info? 75).map (·.size) = some (#[.pointer (some ⟨g1, 0, none⟩), .pointer (some ⟨g2, 0, none⟩)] : Array Value).size) := hsz
  have HK := hidD hK
  have S1 := hidD hs1
  have S2 := hidD hs2
  have YI := hidD hbI
  have YL := hidD hbL
  have RL := hidD hgL
  obtain ⟨cl, _⟩ := cell1 hgL
  obtain ⟨ci, _⟩ := cell1 hgI
  have hi1 : (i : Int) + 1 ≤ 255 := by omega
  have hcast : ((i + 1 : Nat) : Int) = (i : Int) + 1 := by omega
  rw [hcast]
  clear hK hs1 hs2 hgI hbI hgL hbL hsz hcast hz
  generalize hMM : mkP k key (T ++ (info ++ [UInt8.ofNat (i + 1)])) = MM at *
  clear hMM
  rw [hbyte] at HMC
  clear hbyte
  generalize T.length = LT at *
  generalize info.length = LI at *
  generalize k / 8 = K8 at *
  go_enter Try.func37, Try.ntmps37
  go_wp2_with (refine wpList_load_row rfl 75 _ rfl gK rfl 75 #[.pointer (some ⟨g1, 0, none⟩), .pointer (some ⟨g2, 0, none⟩)] (0, 0) _ HK.out Try.underlying75 rfl HI.out ?_)
  go_at_call 35
  obtain ⟨t1, t2, t3, t4⟩ := two_blocks2 a #[.int .u8 ((i : Int) + 1)] #[.slice aL LT cL, .slice aI LI cI, .slice (some ⟨a.heap.size, 0, none⟩) 1 1] 5 22
  have V := hidD (HMC.out a.heap.size (a.heap.size + 1) _ (S1.out.next t3) (S2.out.next t3) t1 t2 (YL.out.next t3) (YI.out.next t3))
  have B1 := hidD t3
  clear t1 t2 t3 t4 HMC
  refine V.out.mono ?_
  rintro e w2 ⟨gN, rfl, hgN, hrN, hx2⟩
  have B2 := hidD (Below.next B1.out hx2)
  have N2 : Hid (a.heap.size ≤ gN) := Nat.le_trans B1.out.size hgN
  have RL2 := hidD ((B2.out.block _ (row_lt RL.out)).trans RL.out)
  have R2 := hidD hrN
  obtain ⟨cl2, cf2⟩ := cell1 RL2.out
  have RN : Hid ((w2.setCell ⟨gL, 0, none⟩ (.slice (some ⟨gN, 0, none⟩) K8 K8)).heap[gL]? = some (.cells #[.slice (some ⟨gN, 0, none⟩) K8 K8] (22 : TypeId) (0, 0))) := by show _ = _; rw [heap_setCell_same _ _ _ _ _ _ RL2.out]; rfl
  have RR : Hid (RowZ (w2.setCell ⟨gL, 0, none⟩ (.slice (some ⟨gN, 0, none⟩) K8 K8)) gN .u8 K8 5 (fun j => ((MM j).toNat : Int))) := R2.out.other (by have := row_lt RL.out; have := N2.out; omega) _ _
  have RB : Hid (But gL a (w2.setCell ⟨gL, 0, none⟩ (.slice (some ⟨gN, 0, none⟩) K8 K8))) := (But.of B2.out (Nat.le_of_lt (row_lt RL.out))).put _ _
  obtain ⟨cl3, _⟩ := cell1 RN.out
  clear hgN hrN hx2 V B1 B2 cl ci
  go_wp2_with fail
  go_ret
  exact ⟨gN, rfl, N2.out, RR.out, RN.out, RB.out⟩
/- what the closure of Expand finds behind i parts; gR: the row that is joined -/
def ExSt (k : Nat) (key info : List UInt8) (gK gL gI g1 g2 gR : Nat) (aI : Option Addr) (cI : Nat) (a : World) (i : Nat) : Prop :=
  a.heap[gK]? = some (.cells #[.pointer (some ⟨g1, 0, none⟩), .pointer (some ⟨g2, 0, none⟩)] (75 : TypeId) (0, 0)) ∧ StAt a g1 k (keyP k key 54) ∧ StAt a g2 k (keyP k key 92) ∧ a.heap[gI]? = some (.cells #[.slice aI info.length cI] (22 : TypeId) (0, 0)) ∧ ByAt a (.slice aI info.length cI) info ∧ ∃ aL cL, a.heap[gL]? = some (.cells #[.slice aL (exT k key info i).length cL] (22 : TypeId) (0, 0)) ∧ ByAt a (.slice aL (exT k key info i).length cL) (exT k key info i) ∧ (exT k key info i ≠ [] → Off (.slice aL (exT k key info i).length cL) gR)
theorem joined_expand (k : Nat) (hk : Kind k) (key info : List UInt8) (hI : info.length ≤ 4611686018427387904) (n : Nat) (hn : n ≤ 255 * (k / 8)) (gK gL gI g1 g2 : Nat) (aI : Option Addr) (cI : Nat) (hne : gK ≠ gL ∧ gI ≠ gL ∧ g1 ≠ gL ∧ g2 ≠ gL) (w : World) (hoff : info ≠ [] → Off (.slice aI info.length cI) gL) (hK : w.heap[gK]? = some (.cells #[.pointer (some ⟨g1, 0, none⟩), .pointer (some ⟨g2, 0, none⟩)] (75 : TypeId) (0, 0))) (hs1 : StAt w g1 k (keyP k key 54)) (hs2 : StAt w g2 k (keyP k key 92)) (hgI : w.heap[gI]? = some (.cells #[.slice aI info.length cI] (22 : TypeId) (0, 0))) (hbI : ByAt w (.slice aI info.length cI) info) (hgL : w.heap[gL]? = some (.cells #[.slice none 0 0] (22 : TypeId) (0, 0))) : Calls Try.prog 36 #[.int .i64 (n : Int), .func (.func 37) #[] #[.pointer (some ⟨gK, 0, none⟩), .pointer (some ⟨gL, 0, none⟩), .pointer (some ⟨gI, 0, none⟩)]] w fun e w' => ∃ g, e = .returned (.slice (some ⟨g, 0, none⟩) n n) ∧ w.heap.size ≤ g ∧ RowZ w' g .u8 n 5 (fun i => ((sbS (k / 8) (exT k key info) i).toNat : Int)) ∧ But gL w w' := by
  have hk8 : 0 < k / 8 ∧ k / 8 ≤ 64 := by rcases hk with rfl | rfl | rfl | rfl <;> decide
  have o2 := by_off hbI (Nat.le_refl _)
  have l1 := row_lt hK
  have l2 := hs1.lt
  have l3 := hs2.lt
  have l4 := row_lt hgI
  have l5 := row_lt hgL
  refine joined37_any n (k / 8) (by omega) hk8.1 hk8.2 (exT k key info) (exT_len k key info) _ _ _ gL w l5 (ExSt k key info gK gL gI g1 g2 w.heap.size aI cI) (fun b hb => ?_) (fun i a b ha hsz hbut => ?_) (fun i hi a ha hsz => ?_)
  · exact ⟨(hb.block _ l1).trans hK, hs1.next hb, hs2.next hb, (hb.block _ l4).trans hgI, hbI.next hb, none, 0, (hb.block _ l5).trans hgL, .inl ⟨rfl, none, 0, rfl, fun _ => rfl⟩, fun h => absurd rfl h⟩
  · obtain ⟨h1, h2, h3, h4, h5, aL, cL, h6, h7, h8⟩ := ha
    exact ⟨(hbut.rest _ (row_lt h1) (by omega)).trans h1, h2.but hbut (by omega), h3.but hbut (by omega), (hbut.rest _ (row_lt h4) (by omega)).trans h4, h5.but' hbut o2, aL, cL, (hbut.rest _ (row_lt h6) (by omega)).trans h6, h7.but' hbut h8, h8⟩
  · obtain ⟨h1, h2, h3, h4, h5, aL, cL, h6, h7, h8⟩ := ha
    have hi255 : i < 255 := by
      rcases Nat.lt_or_ge i 255 with h | h
      · exact h
      · have := Nat.mul_le_mul_right (k / 8) h; omega
    have hTl : (exT k key info i).length ≤ 4611686018427387904 := by
      cases i with
      | zero => exact Nat.zero_le _
      | succ i => rw [exT_len]; omega
    refine (expand1_any k hk key info (exT k key info i) hI hTl gK gL gI g1 g2 i hi255 aL aI cL cI a h1 h2 h3 h4 h5 h6 h7).mono fun e b ⟨gN, q1, q2, q3, q4, q5⟩ => ?_
    refine ⟨gN, k / 8, q1, Nat.le_refl _, q3.lt, fun j hj => ?_, ⟨(q5.rest _ (row_lt h1) hne.1).trans h1, h2.but q5 hne.2.2.1, h3.but q5 hne.2.2.2, (q5.rest _ (row_lt h4) hne.2.1).trans h4, h5.but' q5 hoff, some ⟨gN, 0, none⟩, k / 8, ?_, ?_, fun _ h o n c e => ?_⟩, q5⟩
    · rw [q3.cell hj]
      show _ = some (Value.int .u8 (((mkL k key _).getD j 0).toNat : Int))
      rw [mkL_get _ _ _ _ hj]
    · rw [exT_len]; exact q4
    · rw [exT_len]
      have := rowZ_by q3
      rw [List.length_map, List.length_range] at this
      exact this
    · simp only [Value.slice.injEq, Option.some.injEq, Addr.mk.injEq] at e
      omega
end Go.Proofs.Ytjpcndhdlbkilaa
