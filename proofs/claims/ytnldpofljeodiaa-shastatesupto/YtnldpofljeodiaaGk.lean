/- Texts of one proof, one behind the other. -/
import Derived.Test.YtnldpofljeodiaaGj
/- What Expand's closure and Expand of sha answer. -/
namespace Go.Proofs.Ytnldpofljeodiaa
open Go.RowKit
set_option linter.unusedVariables false

def mkL (k : Nat) (key M : List UInt8) : List UInt8 := (List.range (k / 8)).map (mkP k key M)
theorem mkL_len (k : Nat) (key M : List UInt8) : (mkL k key M).length = k / 8 := by simp [mkL]
theorem mkL_get (k : Nat) (key M : List UInt8) (j : Nat) (h : j < k / 8) : (mkL k key M).getD j 0 = mkP k key M j := by simp [mkL, List.getD_eq_getElem?_getD, h]
def exT (k : Nat) (key info : List UInt8) : Nat → List UInt8
  | 0 => []
  | i + 1 => mkL k key (exT k key info i ++ (info ++ [UInt8.ofNat (i + 1)]))
theorem exT_len (k : Nat) (key info : List UInt8) (i : Nat) : (exT k key info (i + 1)).length = k / 8 := mkL_len _ _ _
theorem cell1 {w : World} {g : Nat} {v : Value} {ty : TypeId} (h : w.heap[g]? = some (.cells #[v] ty (0, 0))) : w.cell? ⟨g, 0, none⟩ = some v ∧ w.frozen? ⟨g, 0, none⟩ = false := ⟨by rw [cell_of_row _ _ _ _ _ _ h]; rfl, frozen_of_row _ _ _ _ _ h⟩
set_option maxRecDepth 100000 in
set_option maxHeartbeats 1600000 in
theorem expand1_any (k : Nat) (hk : Kind k) (key info T : List UInt8) (hI : info.length ≤ 4611686018427387904) (hT : T.length ≤ 4611686018427387904) (gK gL gI g1 g2 : Nat) (i : Nat) (hi : i < 255) (aL aI : Option Addr) (cL cI : Nat) (a : World) (hK : a.heap[gK]? = some (.cells #[.pointer (some ⟨g1, 0, none⟩), .pointer (some ⟨g2, 0, none⟩)] (63 : TypeId) (0, 0))) (hs1 : StAt a g1 k (keyP k key 54)) (hs2 : StAt a g2 k (keyP k key 92)) (hgI : a.heap[gI]? = some (.cells #[.slice aI info.length cI] (22 : TypeId) (0, 0))) (hbI : ByAt a (.slice aI info.length cI) info) (hgL : a.heap[gL]? = some (.cells #[.slice aL T.length cL] (22 : TypeId) (0, 0))) (hbL : ByAt a (.slice aL T.length cL) T) : Calls Try.prog 38 #[.int .i64 ((i + 1 : Nat) : Int), .pointer (some ⟨gK, 0, none⟩), .pointer (some ⟨gL, 0, none⟩), .pointer (some ⟨gI, 0, none⟩)] a fun e b => ∃ gN, e = .returned (.slice (some ⟨gN, 0, none⟩) (k / 8) (k / 8)) ∧ a.heap.size ≤ gN ∧ RowZ b gN .u8 (k / 8) 5 (fun j => ((mkP k key (T ++ (info ++ [UInt8.ofNat (i + 1)])) j).toNat : Int)) ∧ b.heap[gL]? = some (.cells #[.slice (some ⟨gN, 0, none⟩) (k / 8) (k / 8)] (22 : TypeId) (0, 0)) ∧ But gL a b := by
  have hbyte : ((UInt8.ofNat (i + 1)).toNat : Int) = (i : Int) + 1 := by rw [UInt8.toNat_ofNat', Nat.mod_eq_of_lt (by omega)]; omega
  have HMC : Hid (∀ (gB gS : Nat) (w : World), StAt w g1 k (keyP k key 54) → StAt w g2 k (keyP k key 92) → w.heap[gB]? = some (.cells #[.int .u8 ((UInt8.ofNat (i + 1)).toNat : Int)] (5 : TypeId) (0, 0)) → w.heap[gS]? = some (.cells #[.slice aL T.length cL, .slice aI info.length cI, .slice (some ⟨gB, 0, none⟩) 1 1] (22 : TypeId) (0, 0)) → ByAt w (.slice aL T.length cL) T → ByAt w (.slice aI info.length cI) info → Calls Try.prog 34 #[.agg #[.pointer (some ⟨g1, 0, none⟩), .pointer (some ⟨g2, 0, none⟩)], .slice (some ⟨gS, 0, none⟩) 3 3] w fun e w' => ∃ g', e = .returned (.slice (some ⟨g', 0, none⟩) (k / 8) (k / 8)) ∧ w.heap.size ≤ g' ∧ RowZ w' g' .u8 (k / 8) 5 (fun j => ((mkP k key (T ++ (info ++ [UInt8.ofNat (i + 1)])) j).toNat : Int)) ∧ Below w.heap.size w w') := fun gB gS w h1 h2 h3 h4 h5 h6 => by
    have := mac_any k hk (keyP k key 54) (keyP k key 92) (keyP_n k key 54) (keyP_c k hk key 54) (keyP_n k key 92) (keyP_c k hk key 92) g1 g2 [T, info, [UInt8.ofNat (i + 1)]] (fun j => by
      match j with
      | 0 => exact hT
      | 1 => exact hI
      | 2 => exact (by decide : 1 ≤ 4611686018427387904)
      | j + 3 => simp) (by simp) (.slice (some ⟨gS, 0, none⟩) 3 3) w h1 h2 ⟨gS, 0, 3, rfl, row_lt h4, fun j hj => by
        rcases (show j = 0 ∨ j = 1 ∨ j = 2 by simp at hj; omega) with rfl | rfl | rfl
        · exact ⟨aL, cL, by rw [cell_of_row _ _ _ _ _ _ h4]; rfl, h5⟩
        · exact ⟨aI, cI, by rw [cell_of_row _ _ _ _ _ _ h4]; rfl, h6⟩
        · exact ⟨some ⟨gB, 0, none⟩, 1, by rw [cell_of_row _ _ _ _ _ _ h4]; rfl, .inr ⟨gB, 0, 1, rfl, row_lt h3, fun j hj => by
            obtain rfl : j = 0 := by simp at hj; exact hj
            rw [cell_of_row _ _ _ _ _ _ h3]; rfl⟩⟩⟩
    rw [show [T, info, [UInt8.ofNat (i + 1)]].flatten = T ++ (info ++ [UInt8.ofNat (i + 1)]) by simp] at this
    exact this
  obtain ⟨hz, hsz⟩ := zero_of_info Try.zero75z
  have HI : Hid ((Try.prog.info? 63).map (·.size) = some (#[.pointer (some ⟨g1, 0, none⟩), .pointer (some ⟨g2, 0, none⟩)] : Array Value).size) := hsz
  have HK := hidD hK
  have S1 := hidD hs1
  have S2 := hidD hs2
  have YI := hidD hbI
  have YL := hidD hbL
  have RL := hidD hgL
  obtain ⟨cl, _⟩ := cell1 hgL
  obtain ⟨ci, _⟩ := cell1 hgI
  have hi1 : (i : Int) + 1 ≤ 255 := by omega
  have hcast : ((i + 1 : Nat) : Int) = (i : Int) + 1 := by omega
  rw [hcast]
  clear hK hs1 hs2 hgI hbI hgL hbL hsz hcast hz
  generalize hMM : mkP k key (T ++ (info ++ [UInt8.ofNat (i + 1)])) = MM at *
  clear hMM
  rw [hbyte] at HMC
  clear hbyte
  generalize T.length = LT at *
  generalize info.length = LI at *
  generalize k / 8 = K8 at *
  go_enter Try.func38, Try.ntmps38
  go_wp2_with (refine wpList_load_row rfl 63 _ rfl gK rfl 63 #[.pointer (some ⟨g1, 0, none⟩), .pointer (some ⟨g2, 0, none⟩)] (0, 0) _ HK.out Try.underlying63 rfl HI.out ?_)
  go_at_call 34
  obtain ⟨t1, t2, t3, t4⟩ := two_blocks2 a #[.int .u8 ((i : Int) + 1)] #[.slice aL LT cL, .slice aI LI cI, .slice (some ⟨a.heap.size, 0, none⟩) 1 1] 5 22
  have V := hidD (HMC.out a.heap.size (a.heap.size + 1) _ (S1.out.next t3) (S2.out.next t3) t1 t2 (YL.out.next t3) (YI.out.next t3))
  have B1 := hidD t3
  clear t1 t2 t3 t4 HMC
  refine V.out.mono ?_
  rintro e w2 ⟨gN, rfl, hgN, hrN, hx2⟩
  have B2 := hidD (Below.next B1.out hx2)
  have N2 : Hid (a.heap.size ≤ gN) := Nat.le_trans B1.out.size hgN
  have RL2 := hidD ((B2.out.block _ (row_lt RL.out)).trans RL.out)
  have R2 := hidD hrN
  obtain ⟨cl2, cf2⟩ := cell1 RL2.out
  have RN : Hid ((w2.setCell ⟨gL, 0, none⟩ (.slice (some ⟨gN, 0, none⟩) K8 K8)).heap[gL]? = some (.cells #[.slice (some ⟨gN, 0, none⟩) K8 K8] (22 : TypeId) (0, 0))) := by show _ = _; rw [heap_setCell_same _ _ _ _ _ _ RL2.out]; rfl
  have RR : Hid (RowZ (w2.setCell ⟨gL, 0, none⟩ (.slice (some ⟨gN, 0, none⟩) K8 K8)) gN .u8 K8 5 (fun j => ((MM j).toNat : Int))) := R2.out.other (by have := row_lt RL.out; have := N2.out; omega) _ _
  have RB : Hid (But gL a (w2.setCell ⟨gL, 0, none⟩ (.slice (some ⟨gN, 0, none⟩) K8 K8))) := (But.of B2.out (Nat.le_of_lt (row_lt RL.out))).put _ _
  obtain ⟨cl3, _⟩ := cell1 RN.out
  clear hgN hrN hx2 V B1 B2 cl ci
  go_wp2_with fail
  go_ret
  exact ⟨gN, rfl, N2.out, RR.out, RN.out, RB.out⟩
/- what the closure of Expand finds behind i parts; gR: the row that is joined -/
def ExSt (k : Nat) (key info : List UInt8) (gK gL gI g1 g2 gR : Nat) (aI : Option Addr) (cI : Nat) (a : World) (i : Nat) : Prop :=
  a.heap[gK]? = some (.cells #[.pointer (some ⟨g1, 0, none⟩), .pointer (some ⟨g2, 0, none⟩)] (63 : TypeId) (0, 0)) ∧ StAt a g1 k (keyP k key 54) ∧ StAt a g2 k (keyP k key 92) ∧ a.heap[gI]? = some (.cells #[.slice aI info.length cI] (22 : TypeId) (0, 0)) ∧ ByAt a (.slice aI info.length cI) info ∧ ∃ aL cL, a.heap[gL]? = some (.cells #[.slice aL (exT k key info i).length cL] (22 : TypeId) (0, 0)) ∧ ByAt a (.slice aL (exT k key info i).length cL) (exT k key info i) ∧ (exT k key info i ≠ [] → Off (.slice aL (exT k key info i).length cL) gR)
theorem joined_expand (k : Nat) (hk : Kind k) (key info : List UInt8) (hI : info.length ≤ 4611686018427387904) (n : Nat) (hn : n ≤ 255 * (k / 8)) (gK gL gI g1 g2 : Nat) (aI : Option Addr) (cI : Nat) (hne : gK ≠ gL ∧ gI ≠ gL ∧ g1 ≠ gL ∧ g2 ≠ gL) (w : World) (hoff : info ≠ [] → Off (.slice aI info.length cI) gL) (hK : w.heap[gK]? = some (.cells #[.pointer (some ⟨g1, 0, none⟩), .pointer (some ⟨g2, 0, none⟩)] (63 : TypeId) (0, 0))) (hs1 : StAt w g1 k (keyP k key 54)) (hs2 : StAt w g2 k (keyP k key 92)) (hgI : w.heap[gI]? = some (.cells #[.slice aI info.length cI] (22 : TypeId) (0, 0))) (hbI : ByAt w (.slice aI info.length cI) info) (hgL : w.heap[gL]? = some (.cells #[.slice none 0 0] (22 : TypeId) (0, 0))) : Calls Try.prog 37 #[.int .i64 (n : Int), .func (.func 38) #[] #[.pointer (some ⟨gK, 0, none⟩), .pointer (some ⟨gL, 0, none⟩), .pointer (some ⟨gI, 0, none⟩)]] w fun e w' => ∃ g, e = .returned (.slice (some ⟨g, 0, none⟩) n n) ∧ w.heap.size ≤ g ∧ RowZ w' g .u8 n 5 (fun i => ((sbS (k / 8) (exT k key info) i).toNat : Int)) ∧ But gL w w' := by
  have hk8 : 0 < k / 8 ∧ k / 8 ≤ 64 := by rcases hk with rfl | rfl | rfl | rfl <;> decide
  have o2 := by_off hbI (Nat.le_refl _)
  have l1 := row_lt hK
  have l2 := hs1.lt
  have l3 := hs2.lt
  have l4 := row_lt hgI
  have l5 := row_lt hgL
  refine joined37_any n (k / 8) (by omega) hk8.1 hk8.2 (exT k key info) (exT_len k key info) _ _ _ gL w l5 (ExSt k key info gK gL gI g1 g2 w.heap.size aI cI) (fun b hb => ?_) (fun i a b ha hsz hbut => ?_) (fun i hi a ha hsz => ?_)
  · exact ⟨(hb.block _ l1).trans hK, hs1.next hb, hs2.next hb, (hb.block _ l4).trans hgI, hbI.next hb, none, 0, (hb.block _ l5).trans hgL, .inl ⟨rfl, none, 0, rfl, fun _ => rfl⟩, fun h => absurd rfl h⟩
  · obtain ⟨h1, h2, h3, h4, h5, aL, cL, h6, h7, h8⟩ := ha
    exact ⟨(hbut.rest _ (row_lt h1) (by omega)).trans h1, h2.but hbut (by omega), h3.but hbut (by omega), (hbut.rest _ (row_lt h4) (by omega)).trans h4, h5.but' hbut o2, aL, cL, (hbut.rest _ (row_lt h6) (by omega)).trans h6, h7.but' hbut h8, h8⟩
  · obtain ⟨h1, h2, h3, h4, h5, aL, cL, h6, h7, h8⟩ := ha
    have hi255 : i < 255 := by
      rcases Nat.lt_or_ge i 255 with h | h
      · exact h
      · have := Nat.mul_le_mul_right (k / 8) h; omega
    have hTl : (exT k key info i).length ≤ 4611686018427387904 := by
      cases i with
      | zero => exact Nat.zero_le _
      | succ i => rw [exT_len]; omega
    refine (expand1_any k hk key info (exT k key info i) hI hTl gK gL gI g1 g2 i hi255 aL aI cL cI a h1 h2 h3 h4 h5 h6 h7).mono fun e b ⟨gN, q1, q2, q3, q4, q5⟩ => ?_
    refine ⟨gN, k / 8, q1, Nat.le_refl _, q3.lt, fun j hj => ?_, ⟨(q5.rest _ (row_lt h1) hne.1).trans h1, h2.but q5 hne.2.2.1, h3.but q5 hne.2.2.2, (q5.rest _ (row_lt h4) hne.2.1).trans h4, h5.but' q5 hoff, some ⟨gN, 0, none⟩, k / 8, ?_, ?_, fun _ h o n c e => ?_⟩, q5⟩
    · rw [q3.cell hj]
      show _ = some (Value.int .u8 (((mkL k key _).getD j 0).toNat : Int))
      rw [mkL_get _ _ _ _ hj]
    · rw [exT_len]; exact q4
    · rw [exT_len]
      have := rowZ_by q3
      rw [List.length_map, List.length_range] at this
      exact this
    · simp only [Value.slice.injEq, Option.some.injEq, Addr.mk.injEq] at e
      omega
end Go.Proofs.Ytnldpofljeodiaa
/- What Expand of sha answers. -/
namespace Go.Proofs.Ytnldpofljeodiaa
open Go.RowKit
set_option linter.unusedVariables false

theorem Try.zero22z : (Try.prog.info? 22).map (fun i => (i.zero, i.size)) = some (some (.slice none 0 0), 1) := by kernel_rfl
set_option maxRecDepth 100000 in
theorem expand_bad (x : Int) (key : Value) (aI : Option Addr) (lI cI : Nat) (z : Int) (e1 : Int) (h : (e1 = 1 ∧ x ≠ 224 ∧ x ≠ 256 ∧ x ≠ 384 ∧ x ≠ 512) ∨ (∃ k : Nat, Kind k ∧ x = (k : Int) ∧ ((e1 = 1 ∧ z < 0) ∨ (e1 = 3 ∧ ¬ z < 0 ∧ 255 * ((k / 8 : Nat) : Int) < z)))) (w : World) : Calls Try.prog 18 #[.int .i64 x, key, .slice aI lI cI, .int .i64 z] w fun e w' => e = .returned (.tuple #[.slice none 0 0, .int .i64 e1]) ∧ Below w.heap.size w w' := by
  have HB : Hid (Below w.heap.size w (w.alloc (.cells #[.slice aI lI cI] (22 : TypeId)))) := (Below.refl _ _).alloc (Nat.le_refl _) _
  rcases h with ⟨rfl, hx⟩ | ⟨k, hk, rfl, ⟨rfl, hz⟩ | ⟨rfl, hz, hz2⟩⟩
  · have HSZ : Hid (∀ w, Calls Try.prog 36 #[.int .i64 x] w fun e w' => e = .returned (.tuple #[.int .i64 0, .int .i64 0, .int .i64 1]) ∧ w' = w) := fun w => size_no x hx w
    clear hx
    go_enter Try.func18, Try.ntmps18
    go_wp2_with (go_at_call 36; refine (HSZ.out _).mono ?_; rintro e wx ⟨rfl, hx⟩; subst wx)
    go_ret2
    exact ⟨rfl, HB.out⟩
  · have HSZ : Hid (∀ w, Calls Try.prog 36 #[.int .i64 (k : Int)] w fun e w' => e = .returned (.tuple #[.int .i64 ((k / 8 : Nat) : Int), .int .i64 (blkN k : Int), .int .i64 0]) ∧ w' = w) := fun w => size_any k hk w
    generalize k / 8 = K8 at *
    generalize blkN k = BK at *
    go_enter Try.func18, Try.ntmps18
    go_wp2_with (go_at_call 36; refine (HSZ.out _).mono ?_; rintro e wx ⟨rfl, hx⟩; subst wx)
    go_ret2
    exact ⟨rfl, HB.out⟩
  · have HSZ : Hid (∀ w, Calls Try.prog 36 #[.int .i64 (k : Int)] w fun e w' => e = .returned (.tuple #[.int .i64 ((k / 8 : Nat) : Int), .int .i64 (blkN k : Int), .int .i64 0]) ∧ w' = w) := fun w => size_any k hk w
    have hk8 : k / 8 ≤ 64 := by have := hk.le; omega
    generalize k / 8 = K8 at *
    generalize blkN k = BK at *
    go_enter Try.func18, Try.ntmps18
    go_wp2_with (go_at_call 36; refine (HSZ.out _).mono ?_; rintro e wx ⟨rfl, hx⟩; subst wx)
    go_ret2
    exact ⟨rfl, HB.out⟩
set_option maxRecDepth 100000 in
set_option maxHeartbeats 1600000 in
theorem expand_ok (k : Nat) (hk : Kind k) (key info : List UInt8) (hKl : key.length ≤ 4611686018427387904) (hIl : info.length ≤ 4611686018427387904) (n : Nat) (hn : n ≤ 255 * (k / 8)) (aK aI : Option Addr) (cK cI : Nat) (w : World) (hbK : ByAt w (.slice aK key.length cK) key) (hbI : ByAt w (.slice aI info.length cI) info) : Calls Try.prog 18 #[.int .i64 (k : Int), .slice aK key.length cK, .slice aI info.length cI, .int .i64 (n : Int)] w fun e w' => ∃ g, e = .returned (.tuple #[.slice (some ⟨g, 0, none⟩) n n, .int .i64 0]) ∧ w.heap.size ≤ g ∧ RowZ w' g .u8 n 5 (fun i => ((sbS (k / 8) (exT k key info) i).toNat : Int)) ∧ Below w.heap.size w w' := by
  have HSZ : Hid (∀ w, Calls Try.prog 36 #[.int .i64 (k : Int)] w fun e w' => e = .returned (.tuple #[.int .i64 ((k / 8 : Nat) : Int), .int .i64 (blkN k : Int), .int .i64 0]) ∧ w' = w) := fun w => size_any k hk w
  have HNK : Hid (∀ w, ByAt w (.slice aK key.length cK) key → Calls Try.prog 33 #[.int .i64 (k : Int), .slice aK key.length cK] w fun e w' => ∃ g1 g2, e = .returned (.tuple #[.agg #[.pointer (some ⟨g1, 0, none⟩), .pointer (some ⟨g2, 0, none⟩)], .int .i64 0]) ∧ w.heap.size ≤ g1 ∧ w.heap.size ≤ g2 ∧ g1 ≠ g2 ∧ StAt w' g1 k (keyP k key 54) ∧ StAt w' g2 k (keyP k key 92) ∧ Below w.heap.size w w') := fun w h => newKeyed_any k hk key hKl aK cK w h
  have HJN : Hid (∀ (gK gL gI g1 g2 : Nat) (w : World), gK ≠ gL ∧ gI ≠ gL ∧ g1 ≠ gL ∧ g2 ≠ gL → (info ≠ [] → Off (.slice aI info.length cI) gL) → w.heap[gK]? = some (.cells #[.pointer (some ⟨g1, 0, none⟩), .pointer (some ⟨g2, 0, none⟩)] (63 : TypeId) (0, 0)) → StAt w g1 k (keyP k key 54) → StAt w g2 k (keyP k key 92) → w.heap[gI]? = some (.cells #[.slice aI info.length cI] (22 : TypeId) (0, 0)) → ByAt w (.slice aI info.length cI) info → w.heap[gL]? = some (.cells #[.slice none 0 0] (22 : TypeId) (0, 0)) → Calls Try.prog 37 #[.int .i64 (n : Int), .func (.func 38) #[] #[.pointer (some ⟨gK, 0, none⟩), .pointer (some ⟨gL, 0, none⟩), .pointer (some ⟨gI, 0, none⟩)]] w fun e w' => ∃ g, e = .returned (.slice (some ⟨g, 0, none⟩) n n) ∧ w.heap.size ≤ g ∧ RowZ w' g .u8 n 5 (fun i => ((sbS (k / 8) (exT k key info) i).toNat : Int)) ∧ But gL w w') := fun gK gL gI g1 g2 w h1 h2 h3 h4 h5 h6 h7 h8 => joined_expand k hk key info hIl n hn gK gL gI g1 g2 aI cI h1 w h2 h3 h4 h5 h6 h7 h8
  have hk8 : k / 8 ≤ 64 := by have := hk.le; omega
  have hnn : ¬ 255 * ((k / 8 : Nat) : Int) < (n : Int) := by omega
  obtain ⟨hz, hsz⟩ := zero_of_info Try.zero75z
  have HI : Hid (∀ x y : Value, (Try.prog.info? 63).map (·.size) = some (#[x, y] : Array Value).size) := fun _ _ => hsz
  obtain ⟨hz2, hsz2⟩ := zero_of_info Try.zero22z
  have W0 : Hid ((w.alloc (.cells #[.slice aI info.length cI] (22 : TypeId))).heap[w.heap.size]? = some (.cells #[.slice aI info.length cI] (22 : TypeId) (0, 0))) := heap_alloc_last _ _
  have B0 : Hid (Below w.heap.size w (w.alloc (.cells #[.slice aI info.length cI] (22 : TypeId)))) := (Below.refl _ _).alloc (Nat.le_refl _) _
  have YK := hidD hbK
  have YI := hidD hbI
  clear hsz hsz2 hbK hbI hn
  generalize hSB : sbS (k / 8) (exT k key info) = SB at *
  clear hSB
  generalize k / 8 = K8 at *
  generalize blkN k = BK at *
  generalize key.length = LK at *
  generalize info.length = LI at *
  go_enter Try.func18, Try.ntmps18
  go_wp2_with (go_at_call 36; refine (HSZ.out _).mono ?_; rintro e wx ⟨rfl, hx⟩; subst wx)
  go_at_call 33
  refine (HNK.out _ (YK.out.next B0.out)).mono ?_
  rintro e w1 ⟨g1, g2, rfl, hg1, hg2, hne, hs1, hs2, hx1⟩
  go_upto_region 9 with (refine wpList_store_row rfl 63 _ _ rfl w1.heap.size #[.pointer (some ⟨g1, 0, none⟩), .pointer (some ⟨g2, 0, none⟩)] rfl rfl 63 #[.pointer none, .pointer none] (heap_alloc_last _ _) (HI.out _ _) rfl (by simp [Value.oneCell']) ?_)
  obtain ⟨W2, hW2⟩ : ∃ W2 : World, W2 = (w1.alloc (.cells #[.pointer none, .pointer none] (63 : TypeId))).setRow w1.heap.size #[.pointer (some ⟨g1, 0, none⟩), .pointer (some ⟨g2, 0, none⟩)] := ⟨_, rfl⟩
  refine at_world hW2 ?_
  have hx2 : Below w1.heap.size w1 W2 := by rw [hW2]; exact below_setRow ((Below.refl _ _).alloc (Nat.le_refl _) _) (Nat.le_refl _) _
  have R2 : Hid (W2.heap[w1.heap.size]? = some (.cells #[.pointer (some ⟨g1, 0, none⟩), .pointer (some ⟨g2, 0, none⟩)] (63 : TypeId) (0, 0))) := by show _ = _; rw [hW2]; exact setRow_heap _ _ _ _ _ _ (heap_alloc_last _ _)
  have S2 := hidD (hs1.next hx2)
  have T2 := hidD (hs2.next hx2)
  have hx12 := Below.next hx1 hx2
  have I2 := hidD ((hx12.block _ (row_lt W0.out)).trans W0.out)
  have B2 := hidD (Below.next B0.out hx12)
  have Y2 := hidD (YI.out.next (Below.next B0.out hx12))
  clear hs1 hs2 hx1 hx2 hx12 hg1 hg2 hne hW2 HNK YK
  generalize hgR : w1.heap.size = gK at *
  clear hgR
  go_upto_region 10 with fail
  obtain ⟨W3, hW3⟩ : ∃ W3 : World, W3 = W2.alloc (.cells #[.slice none 0 0] (22 : TypeId)) := ⟨_, rfl⟩
  refine at_world hW3 ?_
  have hx3 : Below W2.heap.size W2 W3 := by rw [hW3]; exact (Below.refl _ _).alloc (Nat.le_refl _) _
  have L3 : Hid (W3.heap[W2.heap.size]? = some (.cells #[.slice none 0 0] (22 : TypeId) (0, 0))) := by show _ = _; rw [hW3]; exact heap_alloc_last _ _
  have V3 := hidD (HJN.out gK W2.heap.size w.heap.size g1 g2 W3 ⟨by have := row_lt R2.out; omega, by have := row_lt I2.out; omega, by have := S2.out.lt; omega, by have := T2.out.lt; omega⟩ (by_off Y2.out (Nat.le_refl _)) ((hx3.block _ (row_lt R2.out)).trans R2.out) (S2.out.next hx3) (T2.out.next hx3) ((hx3.block _ (row_lt I2.out)).trans I2.out) (Y2.out.next hx3) L3.out)
  have B3 := hidD (Below.next B2.out hx3)
  have G3 : Hid (w.heap.size ≤ W2.heap.size) := B2.out.size
  clear hx3 hW3 R2 S2 T2 I2 Y2 L3 HJN
  generalize hgL : W2.heap.size = gL at *
  clear hgL
  go_wp2_with fail
  go_at_call 37
  refine V3.out.mono ?_
  rintro e w4 ⟨g4, rfl, hg4, hr4, hx4⟩
  have HF : Hid (w.heap.size ≤ g4 ∧ RowZ w4 g4 .u8 n 5 (fun i => ((SB i).toNat : Int)) ∧ Below w.heap.size w w4) := ⟨Nat.le_trans B3.out.size hg4, hr4, B3.out.trans (hx4.bel.mono G3.out)⟩
  clear hg4 hr4 hx4 V3
  go_wp2_with fail
  go_ret2
  exact ⟨g4, rfl, HF.out⟩
end Go.Proofs.Ytnldpofljeodiaa
