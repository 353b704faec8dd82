/- Texts of one proof, one behind the other. -/
import Derived.Test.YtnldpofljeodiaaR8i
import Derived.Test.YtnldpofljeodiaaGv
import Derived.Test.YtnldpofljeodiaaR8j
/- Plain: blocks, one behind the other. -/
namespace Go.Proofs.Ytnldpofljeodiaa
open Go.RowKit
set_option linter.unusedVariables false

theorem mod_blk (k x : Nat) : x % 18446744073709551616 % blkN k = x % blkN k := by
  unfold blkN; split <;> omega
theorem feed_preW (k : Nat) (s : Ps) (h0 : s.n % blkN k = 0) (hn : s.n < 18446744073709551616) (l : List UInt8) (hl : l.length = blkN k) : ∀ i, i < blkN k → feedP k s (l.take i) = ⟨(s.n + i) % 18446744073709551616, fun j => if j < i then l.getD j 0 else s.r j, s.c⟩
  | 0, _ => by
    show s = _
    obtain ⟨n, r, c⟩ := s
    simp at hn ⊢
    omega
  | i + 1, hi => by
    have hp := blk_pos k
    have hm : (s.n + i) % 18446744073709551616 % blkN k = i := by rw [mod_blk, Nat.add_mod, h0, Nat.zero_add, Nat.mod_mod, Nat.mod_eq_of_lt (by omega)]
    rw [feed_snoc k s l i (by omega), feed_preW k s h0 hn l hl i (by omega)]
    unfold stepP
    simp only [hm]
    rw [if_neg (by omega)]
    congr 1
    · omega
    · funext j
      by_cases h1 : j = i
      · subst h1; rw [if_pos rfl, if_pos (by omega)]
      · rw [if_neg h1]
        by_cases h2 : j < i
        · rw [if_pos h2, if_pos (by omega)]
        · rw [if_neg h2, if_neg (by omega)]
theorem feed_blockW (k : Nat) (s : Ps) (h0 : s.n % blkN k = 0) (hn : s.n < 18446744073709551616) (l : List UInt8) (hl : l.length = blkN k) : (feedP k s l).c = afK k (fun j => l.getD j 0) s.c := by
  have hp := blk_pos k
  have e : l = l.take (blkN k - 1 + 1) := by rw [List.take_of_length_le (by omega)]
  have hm : (s.n + (blkN k - 1)) % 18446744073709551616 % blkN k = blkN k - 1 := by rw [mod_blk, Nat.add_mod, h0, Nat.zero_add, Nat.mod_mod, Nat.mod_eq_of_lt (by omega)]
  rw [e, feed_snoc k s l _ (by omega), feed_preW k s h0 hn l hl _ (by omega), ← e]
  unfold stepP
  simp only [hm, if_true]
  apply afK_congr
  intro i hi
  by_cases h1 : i = blkN k - 1
  · subst h1; rw [if_pos rfl]
  · rw [if_neg h1, if_pos (by omega)]
def chB (k : Nat) (L : List UInt8) (c : Nat → Nat) : Nat → Nat → Nat
  | 0 => c
  | m + 1 => afK k (fun q => L.getD (m * blkN k + q) 0) (chB k L c m)
theorem chB_lt (k : Nat) (L : List UInt8) (c : Nat → Nat) (h : ∀ j, c j < mdK k) : ∀ m j, chB k L c m j < mdK k
  | 0 => h
  | m + 1 => fun j => afK_lt _ _ _ _
theorem feed_blocks (k : Nat) (s : Ps) (h0 : s.n % blkN k = 0) (hn : s.n < 18446744073709551616) (L : List UInt8) : ∀ m, m * blkN k ≤ L.length → (feedP k s (L.take (m * blkN k))).c = chB k L s.c m ∧ (feedP k s (L.take (m * blkN k))).n % blkN k = 0
  | 0, _ => by rw [Nat.zero_mul]; exact ⟨rfl, h0⟩
  | m + 1, h => by
    have hp := blk_pos k
    have hm : m * blkN k + blkN k ≤ L.length := by rw [Nat.add_mul, Nat.one_mul] at h; exact h
    obtain ⟨h1, h2⟩ := feed_blocks k s h0 hn L m (by omega)
    have e : L.take ((m + 1) * blkN k) = L.take (m * blkN k) ++ (L.drop (m * blkN k)).take (blkN k) := by
      rw [Nat.add_mul, Nat.one_mul, List.take_add]
    have hl : ((L.drop (m * blkN k)).take (blkN k)).length = blkN k := by rw [List.length_take, List.length_drop]; omega
    have hnn : (feedP k s (L.take (m * blkN k))).n < 18446744073709551616 := by rw [feed_n k _ s hn]; exact Nat.mod_lt _ (by omega)
    rw [e, feed_app]
    refine ⟨?_, ?_⟩
    · rw [feed_blockW k _ h2 hnn _ hl, h1]
      show _ = afK k (fun q => L.getD (m * blkN k + q) 0) (chB k L s.c m)
      apply afK_congr
      intro i hi
      rw [List.getD_eq_getElem?_getD, List.getD_eq_getElem?_getD, List.getElem?_take, if_pos hi, List.getElem?_drop]
    · rw [feed_n k _ _ hnn, hl, mod_blk, Nat.add_mod, h2, Nat.zero_add, Nat.mod_mod, Nat.mod_self]
/- the text with its padding -/
def lpK (k A : Nat) (L : List UInt8) : List UInt8 := L ++ padL k ((A + L.length) % 18446744073709551616)
theorem lp_len (k A : Nat) (hA0 : A % blkN k = 0) (L : List UInt8) : ∃ m, (lpK k A L).length = m * blkN k := by
  have hb : blkN k = 64 ∨ blkN k = 128 := by unfold blkN; split <;> omega
  have h := (rm_bound (blkN k) ((A + L.length) % 18446744073709551616) hb).2.2
  refine ⟨(lpK k A L).length / blkN k, ?_⟩
  have h2 : (lpK k A L).length % blkN k = 0 := by
    unfold lpK
    rw [List.length_append, padL_len]
    rw [Nat.add_mod, mod_blk, Nat.add_mod A, hA0, Nat.zero_add, Nat.mod_mod, ← Nat.add_mod] at h
    exact h
  have := Nat.div_add_mod (lpK k A L).length (blkN k)
  rw [h2, Nat.add_zero, Nat.mul_comm] at this
  exact this.symm
theorem lp_le (k A : Nat) (L : List UInt8) : (lpK k A L).length ≤ L.length + 144 := by
  have hb : blkN k = 64 ∨ blkN k = 128 := by unfold blkN; split <;> omega
  have h := (rm_bound (blkN k) ((A + L.length) % 18446744073709551616) hb).2.1
  unfold lpK
  rw [List.length_append, padL_len]
  have : blkN k + blkN k / 8 ≤ 144 := by rcases hb with e | e <;> rw [e] <;> decide
  omega
theorem dg_blocks (k A : Nat) (hA : A < 18446744073709551616) (hA0 : A % blkN k = 0) (r : Nat → UInt8) (c : Nat → Nat) (L : List UInt8) (m : Nat) (hm : (lpK k A L).length = m * blkN k) : dgL k (feedP k ⟨A, r, c⟩ L) = (List.range (k / 8)).map (cbK k (chB k (lpK k A L) c m)) := by
  have h := (feed_blocks k ⟨A, r, c⟩ hA0 hA (lpK k A L) m (by omega)).1
  rw [← hm, List.take_of_length_le (Nat.le_refl _)] at h
  unfold dgL
  congr 1
  funext i
  unfold dgP
  rw [feed_n k L ⟨A, r, c⟩ hA, ← feed_app]
  show cbK k (feedP k ⟨A, r, c⟩ (lpK k A L)).c i = _
  rw [h]
theorem cb_at (k : Nat) (C : Nat → Nat) (i j : Nat) (hj : j < nbK k) : (cbK k C (i * nbK k + j)).toNat = C i / 2 ^ (8 * (nbK k - 1 - j)) % 256 := by
  unfold cbK nbK at *
  by_cases h : 256 < k
  · simp only [if_pos h] at hj ⊢
    rw [cbS_nat, show (i * 8 + j) / 8 = i by omega, show (i * 8 + j) % 8 = j by omega]
  · simp only [if_neg h] at hj ⊢
    rw [cbS_nat, show (i * 4 + j) / 4 = i by omega, show (i * 4 + j) % 4 = j by omega]
end Go.Proofs.Ytnldpofljeodiaa
/- What Sum of a hash of the document's answer for layer 8 answers. -/
namespace Go.Proofs.Ytnldpofljeodiaa
open Go.RowKit
set_option linter.unusedVariables false

theorem blk_nb (k : Nat) : blkN k = 16 * nbK k ∧ (nbK k = 4 ∨ nbK k = 8) ∧ k / 8 ≤ 8 * nbK k ∨ 512 < k := by
  unfold blkN nbK; split <;> omega
theorem kd_nb (k : Nat) (hk : Kind k) : blkN k = 16 * nbK k ∧ (nbK k = 4 ∨ nbK k = 8) ∧ k / 8 ≤ 8 * nbK k ∧ 28 ≤ k / 8 := by
  rcases hk with rfl | rfl | rfl | rfl <;> decide
def cbR (k : Nat) (C : Nat → Nat) (n : Nat) : List Value := (List.range n).map fun i => encB (cbK k C i)
theorem cbR_next (k : Nat) (C : Nat → Nat) (n : Nat) : cbR k C (n + 1) = cbR k C n ++ [encB (cbK k C n)] := by simp [cbR, List.range_succ]
set_option maxRecDepth 100000 in
set_option maxHeartbeats 3000000 in
theorem rHSum_any (k : Nat) (hk : Kind k) (A : Nat) (hA : A < 18446744073709551616) (hA0 : A % blkN k = 0) (c : Nat → Nat) (hcl : ∀ j, c j < mdK k) (r : Nat → UInt8) (L : List UInt8) (hL : L.length ≤ 140737488354816) (g : Nat) (vk vh vb : Value) (w : World) (hH : HaAt w g k vk vh A vb) (hK : NsAt w .u64 vk (nkK k) (coS k)) (hh : NsAt w .u64 vh 8 c) (hB : ByAt w vb L) : Calls Try.prog 29 #[.pointer (some ⟨g, 0, none⟩)] w fun e w' => ∃ g' cap, e = .returned (.slice (some ⟨g', 0, none⟩) (k / 8) cap) ∧ w.heap.size ≤ g' ∧ g' < w'.heap.size ∧ k / 8 ≤ cap ∧ ByAt w' (.slice (some ⟨g', 0, none⟩) (k / 8) cap) (dgL k (feedP k ⟨A, r, c⟩ L)) ∧ Below w.heap.size w w' := by
  have hkk : k ≤ 512 := by rcases hk with rfl | rfl | rfl | rfl <;> omega
  obtain ⟨i5, hi5, hz50, hz51, hz52⟩ := info_parts Try.info5
  obtain ⟨ab, cb0, rfl, _⟩ := hB.shape
  obtain ⟨hbn, hnb, hsz, hsz1⟩ := kd_nb k hk
  obtain ⟨mt, hmt⟩ := lp_len k A hA0 L
  have hle := lp_le k A L
  rw [dg_blocks k A hA hA0 r c L mt hmt]
  have HSZ := hidD (rSize_any k hk)
  have hpd1 : 1 ≤ (padL k ((A + L.length) % 18446744073709551616)).length := by
    rw [padL_len]
    have := (rm_bound (blkN k) ((A + L.length) % 18446744073709551616) (by unfold blkN; split <;> omega)).1
    omega
  have HBH := hidD (rBehind_any k hk ((A + L.length) % 18446744073709551616) (Nat.mod_lt _ (by omega)))
  have HRD : Hid (∀ (m : Nat) (sh : Value) (g0 off cap : Nat) (wA : World), Below w.heap.size w wA → NsAt wA .u64 sh 8 (chB k (lpK k A L) c m) → blkN k ≤ cap → g0 < wA.heap.size → (∀ q, q < blkN k → wA.cell? ⟨g0, off + q, none⟩ = some (.int .u8 (((lpK k A L).getD (m * blkN k + q) 0).toNat : Int))) → Calls Try.prog 55 #[.pointer (some ⟨g, 0, none⟩), sh, .slice (some ⟨g0, off, none⟩) (blkN k) cap] wA fun e w' => ∃ v, e = .returned v ∧ NsAt w' .u64 v 8 (chB k (lpK k A L) c (m + 1)) ∧ Below wA.heap.size wA w') := fun m sh g0 off cap wA hwA hs hlc hg hc => (rRound_any k hk (chB k (lpK k A L) c m) (chB_lt k _ c hcl m) (fun q => (lpK k A L).getD (m * blkN k + q) 0) g vk vh (.slice ab L.length cb0) sh A g0 off cap hlc wA (hH.next hwA) (hK.below hwA) hs hg hc).mono fun e w' ⟨v, he, ho, hb⟩ => ⟨v, he, NsAt.row ho, hb⟩
  have HCB : Hid (∀ i j, j < nbK k → (cbK k (chB k (lpK k A L) c mt) (i * nbK k + j)).toNat = chB k (lpK k A L) c mt i / 2 ^ (8 * (nbK k - 1 - j)) % 256) := fun i j hj => cb_at k _ i j hj
  have HCN := hidD (cbR_next k (chB k (lpK k A L) c mt))
  have HFIN : Hid (cbR k (chB k (lpK k A L) c mt) (8 * nbK k) = ((List.range (8 * nbK k)).map (cbK k (chB k (lpK k A L) c mt))).map encB) := by show _ = _; unfold cbR; rw [List.map_map]; rfl
  have HTK : Hid ((List.range (k / 8)).map (cbK k (chB k (lpK k A L) c mt)) = ((List.range (8 * nbK k)).map (cbK k (chB k (lpK k A L) c mt))).take (k / 8)) := by
    show _ = _
    rw [← List.map_take, List.take_range, Nat.min_eq_left hsz]
  have HLP : Hid (L.map encB ++ (padL k ((A + L.length) % 18446744073709551616)).map encB = (lpK k A L).map encB) := by show _ = _; unfold lpK; rw [List.map_append]
  have HLL : Hid ((lpK k A L).length = L.length + (padL k ((A + L.length) % 18446744073709551616)).length) := by show _ = _; unfold lpK; rw [List.length_append]
  have HCL := hidD (fun j => Nat.lt_of_lt_of_le (chB_lt k (lpK k A L) c hcl mt j) (show mdK k ≤ 18446744073709551616 by unfold mdK; split <;> omega))
  have HC0 : Hid (NsAt w .u64 vh 8 (chB k (lpK k A L) c 0)) := hh
  obtain ⟨av, cv, rfl, _, _⟩ := id hh
  obtain ⟨avk, cvk, rfl, _, _⟩ := id hK
  have HHG := hidD hH
  have HBY := hidD hB
  have hgl := row_lt hH
  have hadd : IntKind.u64.wrap ((A : Int) + (L.length : Int)) = (((A + L.length) % 18446744073709551616 : Nat) : Int) := by rw [IntKind.wrap_u64]; omega
  have hconv : IntKind.u64.wrap (L.length : Int) = (L.length : Int) := by rw [IntKind.wrap_u64]; omega
  have hnmod : (A + L.length) % 18446744073709551616 < 18446744073709551616 := Nat.mod_lt _ (by omega)
  have HMT := hidD hmt
  have c0 : ∀ i : KB w [g], i.v.cell? ⟨g, 0, none⟩ = some (.int .i64 (k : Int)) := fun i => (i.cell (b := g) (by simp) _).trans (by rw [cell_of_row _ _ _ _ _ _ hH]; rfl)
  have c3 : ∀ i : KB w [g], i.v.cell? ⟨g, 3, none⟩ = some (.int .u64 (A : Int)) := fun i => (i.cell (b := g) (by simp) _).trans (by rw [cell_of_row _ _ _ _ _ _ hH]; rfl)
  have c4 : ∀ i : KB w [g], i.v.cell? ⟨g, 4, none⟩ = some (.slice ab L.length cb0) := fun i => (i.cell (b := g) (by simp) _).trans (by rw [cell_of_row _ _ _ _ _ _ hH]; rfl)
  have C2 : Hid (∀ wA, Below w.heap.size w wA → wA.cell? ⟨g, 2, none⟩ = some (.slice av 8 cv)) := fun wA h => by rw [cell_of_row _ _ _ _ _ _ (hH.next h)]; rfl
  have d0 : w.cell? ⟨g, 0, none⟩ = some (.int .i64 (k : Int)) := by rw [cell_of_row _ _ _ _ _ _ hH]; rfl
  have HKK : Hid (∀ wB, Below w.heap.size w wB → ∃ i : KB w [g], wB = i.v) := fun wB hb => ⟨⟨wB, fun x hx => by
    rw [show x = g by simpa using hx]
    exact hb.block _ hgl⟩, rfl⟩
  clear hH hK hh hB hcl hA0 hmt hk
  generalize hBK : blkN k = BK at *
  generalize lpK k A L = LP at *
  generalize (A + L.length) % 18446744073709551616 = NN at *
  generalize padL k NN = PD at *
  generalize hNB : nbK k = NB at *
  generalize chB k LP c = CH at *
  generalize hC : CH mt = C at *
  generalize hS8 : k / 8 = sz at *
  clear hBK hNB hS8
  have hBK1 : 64 ≤ BK ∧ BK ≤ 128 := by omega
  have HBN16 := hidD hbn
  have HNB := hidD hnb
  clear hbn hnb
  have HCE := hidD hC
  clear hC
  go_enter Try.func29, Try.ntmps29
  go_wp2_with (go_at_call 39; refine (HSZ.out _).mono ?_; rintro e wz ⟨rfl, hwz⟩; subst wz; clear HSZ)
  clear d0
  have HDR : Hid (Below w.heap.size w w.drew) := (Below.refl _ _).drew
  refine wp_region_seg [1, 0, 0, 0, 0, 3, 0, 0, 0, 0, 0, 0, 0, 0, 0, 0, 0, 0, 0, 0, 0, 5, 99, 99] 3 22 [g] (by kernel_rfl) (by kernel_rfl) (by kernel_rfl) (by kernel_rfl) (by kernel_rfl) (by kernel_rfl) (by kernel_rfl) (by kernel_rfl) (fun _ _ _ _ _ h => h) ?_
  simp only [SegW, pk, Nat.reduceMul, Nat.reduceAdd, Nat.reduceBEq, cond_true, cond_false]
  repeat (go_big_quiet_step (fail))
  refine wpQuiet_nil ?_
  have HR0 : Hid ((w.drew.alloc (.cells #[] (5 : TypeId))).ownsRow w.heap.size 5 1 (.slice (some ⟨w.heap.size, 0, none⟩) 0 0) 0 []) := World.ownsRow_made w.drew #[] 0 (Nat.le_refl _) (by unfold maxLen; omega) rfl
  have HB0 : Hid (Below w.heap.size w (w.drew.alloc (.cells #[] (5 : TypeId)))) := HDR.out.alloc (Nat.le_refl _) _
  go_wp2_with fail
  refine ⟨HKK.out _ HB0.out, ?_⟩
  refine wpQuiet_nil ?_
  go_wp2_with (at_builtin; refine wpList_append_by rfl _ _ rfl w.heap.size (.slice (some ⟨w.heap.size, 0, none⟩) 0 0) 0 [] rfl HR0.out (.slice ab L.length cb0) L rfl (HBY.out.next HB0.out) (by omega) HB0.out.size ?_; intro v1 w1 hown1 hg1; have HB1 := hidD (row_grown HR0.out HB0.out hg1 HB0.out.size); clear hg1)
  rw [List.nil_append, Nat.zero_add] at hown1
  obtain ⟨a1, k1, hv1⟩ := row_shape hown1
  subst hv1
  have HO1 := hidD hown1
  clear hown1 HR0 HB0
  refine ⟨HKK.out _ HB1.out, ?_⟩
  refine wpQuiet_nil ?_
  go_wp2_with (go_at_call 44; refine (HBH.out _).mono ?_; rintro e w2 ⟨vp, rfl, hownp, hb2⟩; have HB2 := hidD (Below.next HB1.out hb2); have HO2 := hidD (row_below HO1.out hb2); have HPB := hidD (row_by hownp); clear hownp hb2)
  refine ⟨HKK.out _ HB2.out, ?_⟩
  refine wpQuiet_nil ?_
  have hnd := HB2.out.size
  have hlq : L.length + PD.length ≤ 140737488355328 := by have := HLL.out; omega
  go_wp2_with (first
    | (at_builtin; refine wpList_append_by rfl _ _ rfl w.heap.size (.slice a1 L.length k1) L.length (L.map encB) rfl HO2.out vp PD rfl HPB.out hlq hnd ?_; intro v3 w3 hown3 hg3; have HB3 := hidD (row_grown HO2.out HB2.out hg3 hnd); clear hg3; rw [HLP.out, ← HLL.out] at hown3; have HO3 := hidD hown3; have hc2 := C2.out _ HB3.out; obtain ⟨gb, cb, hv3, hgb, hgbl, hcb⟩ := row_shapeC hown3 (by have := HLL.out; omega); subst hv3; clear hown3))
  have hLPn : LP.length ≤ 140737488355000 := by have := HLL.out; omega
  obtain ⟨LN, hLN⟩ : ∃ LN : Nat, LP.length = LN := ⟨_, rfl⟩
  have HCC : Hid (∀ q, q < LN → w3.cell? ⟨gb, q, none⟩ = some (.int .u8 ((LP.getD q 0).toNat : Int))) := fun q hq => by
    rw [HO3.out.cellAt q (by omega), List.getElem?_map, List.getD_eq_getElem?_getD, List.getElem?_eq_getElem (by omega)]; rfl
  have HN0 := hidD (HC0.out.below HB3.out)
  rw [hLN] at HMT hcb hLPn ⊢
  clear hLN HLL HO3 HPB HO2 HO1 HBY HLP HB1 HB2 hnd hlq hle c0 c3 c4 hc2 hadd hconv hnmod HBH HC0
  go_loopw [7, 8] (fun hv iv wr => ∃ m : Nat, m ≤ mt ∧ iv = .int .i64 ((m * BK : Nat) : Int) ∧ NsAt wr .u64 hv 8 (CH m) ∧ Below w3.heap.size w3 wr) (fun _ iv _ => LN + 1 - (intOf iv).toNat)
  case atStart => exact ⟨0, by omega, by rw [Nat.zero_mul]; rfl, HN0.out, Below.refl _ _⟩
  case round =>
    clear HN0
    obtain ⟨m, hm, rfl, hns, hbel⟩ := hrel
    obtain ⟨ah, ch, rfl, _, _⟩ := id hns
    have HNS := hidD hns
    have HBL := hidD hbel
    have hmt := HMT.out
    obtain ⟨P, hP⟩ : ∃ P : Nat, m * BK = P := ⟨_, rfl⟩
    rw [hP]
    have hPB : (P : Int) + (BK : Int) = ((P + BK : Nat) : Int) := by omega
    by_cases hlt : m < mt
    · have hPL : P + BK ≤ LN := by
        rw [hmt, ← hP]
        have : (m + 1) * BK ≤ mt * BK := Nat.mul_le_mul_right _ (by omega)
        rw [Nat.add_mul, Nat.one_mul] at this
        exact this
      have HP1 : Hid ((m + 1) * BK = P + BK) := by show _ = _; rw [Nat.add_mul, Nat.one_mul, hP]
      have hPLi : ((P + BK : Nat) : Int) ≤ (LN : Int) := by omega
      have hPc : P + BK ≤ cb := by omega
      have hne : ¬ cb = P := by omega
      have hsl : P + BK - P = BK := by omega
      have HRDM := hidD (HRD.out m (.slice ah 8 ch) gb P (cb - P) wr (HB3.out.trans (hbel.mono HB3.out.size)) HNS.out (by omega) (Nat.lt_of_lt_of_le hgbl hbel.size) (fun q hq => (hbel.cell (p := ⟨gb, P + q, none⟩) hgbl).trans (by rw [hP]; exact HCC.out (P + q) (by omega))))
      clear hns hmt hP hbel
      generalize hPBn : P + BK = PB at *
      have HPBn := hidD hPBn
      have hle2 : P ≤ PB := by omega
      clear hPBn
      go_wp2_with (go_at_call 55; refine HRDM.out.mono ?_; rintro e w5 ⟨v5, rfl, hn5, hb5⟩; obtain ⟨a5, c5, h5, _, _⟩ := id hn5; subst h5)
      go_roundw
      case rel =>
        first
        | exact ⟨m + 1, by omega, by rw [HP1.out], hn5, HBL.out.trans (hb5.mono HBL.out.size)⟩
        | ((repeat apply Exists.intro); refine And.intro ?_ rfl; exact ⟨m + 1, by omega, by rw [HP1.out], hn5, HBL.out.trans (hb5.mono HBL.out.size)⟩)
      case measure => simp [intOf]; omega
    · obtain rfl : mt = m := by omega
      have hnlt : ¬ ((P + BK : Nat) : Int) ≤ (LN : Int) := by
        rw [hP] at hmt; omega
      have hPBb : P + BK ≤ 140737488356000 := by
        rw [hP] at hmt; omega
      obtain ⟨gh, oh, rfl, hghl, _⟩ : ∃ gh oh, ah = some ⟨gh, oh, none⟩ ∧ gh < wr.heap.size ∧ True := by
        obtain ⟨a', c', he, _, hh'⟩ := id hns
        cases he
        obtain ⟨g', o', he', h1, _⟩ := hh' 0 (by omega)
        exact ⟨g', o', he', h1, trivial⟩
      rw [HCE.out] at HNS
      have HHC : Hid (∀ q, q < 8 → wr.cell? ⟨gh, oh + q, none⟩ = some (.int .u64 (C q : Int))) := fun q hq => by
        obtain ⟨a', c', he, _, hh'⟩ := id HNS.out
        cases he
        obtain ⟨g', o', he', _, h2⟩ := hh' q hq
        cases he'; exact h2
      have hch8 : 8 ≤ ch := by
        obtain ⟨a', c', he, h1, _⟩ := id HNS.out
        cases he; exact h1
      have HBW : Hid (Below w.heap.size w wr) := HB3.out.trans (hbel.mono HB3.out.size)
      obtain ⟨wl, hwl⟩ : ∃ wl : World, wl = wr := ⟨_, rfl⟩
      subst hwl
      clear hns HRD HCC HCE hmt hP hbel HNS HBL HMT
      generalize P + BK = PB at *
      have h16 := HBN16.out
      have hnb := HNB.out
      have hq2 : (BK : Int).tdiv 2 = ((8 * NB : Nat) : Int) := by rw [Int.tdiv_eq_ediv_of_nonneg (by omega)]; omega
      have hqs : ((8 * NB : Nat) : Int) - 8 = ((8 * NB - 8 : Nat) : Int) := by omega
      clear h16
      obtain ⟨E, hE⟩ : ∃ E : Nat, 8 * NB - 8 = E := ⟨_, rfl⟩
      rw [hE] at hqs
      have HE := hidD hE
      have HE8 : Hid (E + 8 = 8 * NB) := by show _ = _; omega
      have hE56 : E ≤ 56 := by omega
      clear hE hnb
      obtain ⟨N8, hN8⟩ : ∃ N8 : Nat, 8 * NB = N8 := ⟨_, rfl⟩
      rw [hN8] at hq2 hqs hsz
      have HN8 := hidD hN8
      clear hN8
      go_wp2_with fail
      go_loopw [9, 10] (fun o iv wr => ∃ i : Nat, i ≤ 8 ∧ iv = .int .i64 (i : Int) ∧ wr.ownsRow wl.heap.size 5 1 o (i * NB) (cbR k C (i * NB)) ∧ Below wl.heap.size wl wr) (fun _ iv _ => 8 - (intOf iv).toNat)
      case atStart => exact ⟨0, by omega, rfl, by rw [Nat.zero_mul]; exact World.ownsRow_nil _ _ _ _, Below.refl _ _⟩
      case round =>
        obtain ⟨i, hi, rfl, hown, hbel⟩ := hrel
        obtain ⟨ad, cd, hde⟩ := row_shape hown
        subst hde
        have HOW := hidD hown
        have HBL := hidD hbel
        have hwz := hbel.size
        by_cases hlt : i < 8
        · have hlti : (i : Int) < 8 := by omega
          have hci := (hbel.cell (p := ⟨gh, oh + i, none⟩) hghl).trans (HHC.out i hlt)
          have hCi := HCL.out i
          have HCBI := hidD (fun j hj => HCB.out i j hj)
          obtain ⟨I, hI⟩ : ∃ I : Nat, i * NB = I := ⟨_, rfl⟩
          have hIb : I ≤ 64 := by
            rw [← hI]
            have h1 : i * NB ≤ 8 * NB := Nat.mul_le_mul_right _ (by omega)
            have := HNB.out; omega
          have HI1 : Hid ((i + 1) * NB = I + NB) := by show _ = _; rw [Nat.add_mul, Nat.one_mul, hI]
          rw [hI] at HCBI HOW ⊢
          clear hown hI hbel
          generalize C i = Ci at *
          obtain ⟨wm, hwm⟩ : ∃ wm : World, wm = wr := ⟨_, rfl⟩
          subst hwm
          have HHm : Hid (∀ wA, Below wl.heap.size wl wA → wA.cell? ⟨gh, oh + i, none⟩ = some (.int .u64 (Ci : Int))) := fun wA h => by
            rw [← hci]
            rw [h.cell (p := ⟨gh, oh + i, none⟩) hghl, HBL.out.cell (p := ⟨gh, oh + i, none⟩) hghl]
          clear hci
          go_wp2_with fail
          go_loopw [9, 11] (fun o kv wr => ∃ j : Nat, j ≤ NB ∧ kv = .int .i64 ((E : Int) - 8 * (j : Int)) ∧ wr.ownsRow wl.heap.size 5 1 o (I + j) (cbR k C (I + j)) ∧ Below wl.heap.size wl wr) (fun _ kv _ => (intOf kv + 8).toNat)
          case atStart => exact ⟨0, by omega, by rfl, HOW.out, HBL.out⟩
          case round =>
            clear HOW HBL hwz
            obtain ⟨j, hj, rfl, hown, hbel⟩ := hrel
            obtain ⟨ad, cd, hde⟩ := row_shape hown
            subst hde
            have HOW := hidD hown
            have HBL := hidD hbel
            have hwz := hbel.size
            have hci := HHm.out _ hbel
            clear hown hbel
            by_cases hlj : j < NB
            · have he8 := HE8.out
              have hii : (E : Int) - 8 * (j : Int) = ((E - 8 * j : Nat) : Int) := by omega
              have hv := HCBI.out j hlj
              rw [show 8 * (NB - 1 - j) = E - 8 * j by omega] at hv
              have HPN := hidD (HCN.out (I + j))
              have HVE : Hid (encB (cbK k C (I + j)) = .int .u8 ((Ci / 2 ^ (E - 8 * j) % 256 : Nat) : Int)) := by show _ = _; unfold encB; rw [hv]
              rw [HVE.out] at HPN
              have hnx : ((E - 8 * j : Nat) : Int) - 8 = (E : Int) - 8 * ((j + 1 : Nat) : Int) := by omega
              rw [hii]
              have HNI := hidD hnx
              have hil : E - 8 * j ≤ 56 := by omega
              clear hii hnx hv he8 HVE
              generalize E - 8 * j = s at *
              have hdv : (Ci : Int) / 2 ^ s = ((Ci / 2 ^ s : Nat) : Int) := by simp
              have hdl : Ci / 2 ^ s < 18446744073709551616 := Nat.lt_of_le_of_lt (Nat.div_le_self _ _) hCi
              generalize Ci / 2 ^ s = D at *
              have hby : (D : Int) % 256 = ((D % 256 : Nat) : Int) := by omega
              have hbl : D % 256 < 256 := Nat.mod_lt _ (by omega)
              generalize D % 256 = X at *
              obtain ⟨m2, hm2⟩ : ∃ m2 : Nat, I + j = m2 := ⟨_, rfl⟩
              have HM := hidD hm2
              have hmR : m2 ≤ 128 := by have := HNB.out; omega
              rw [hm2] at HPN HOW ⊢
              clear hm2
              generalize hRG : cbR k C m2 = RG at *
              clear hRG
              go_wp2_with (at_builtin; refine wpList_append_own _ rfl _ _ 22 rfl wl.heap.size 5 i5 (.int .u8 0) 1 1 Try.underlying22 hi5 hz50 hz51 hz52 rfl (by decide) (.slice ad m2 cd) m2 RG rfl (row_below HOW.out ((Below.refl _ _).alloc (Nat.le_refl _) _)) ⟨wr.heap.size, 0, none⟩ 1 1 [.int .u8 (X : Int)] rfl rfl (new_cell1 wr _ _) (by simp [Value.oneCell']) (by unfold maxLen; omega) (by omega) (by simp; omega) ?_; intro v4 w4 hown4 hg4 hnil4; have HB4 := hidD (row_grown (row_below HOW.out ((Below.refl _ _).alloc (Nat.le_refl _) _)) (HBL.out.alloc hwz _) hg4 (by simp; omega)); obtain ⟨a4, c4, hv4⟩ := row_shape hown4; subst hv4; clear hg4 hnil4)
              go_roundw
              case rel =>
                first
                | exact ⟨j + 1, by omega, by rw [HNI.out], by rw [show I + (j + 1) = m2 + 1 by (have := HM.out; omega), HPN.out]; exact hown4, HB4.out⟩
                | ((repeat apply Exists.intro); refine And.intro ?_ rfl; exact ⟨j + 1, by omega, by rw [HNI.out], by rw [show I + (j + 1) = m2 + 1 by (have := HM.out; omega), HPN.out]; exact hown4, HB4.out⟩)
              case measure => simp [intOf]; omega
            · obtain rfl : NB = j := by omega
              have hii : (E : Int) - 8 * (NB : Int) = -8 := by have := HE8.out; omega
              rw [hii]
              go_wp2_with fail
              go_roundw
              case rel =>
                first
                | exact ⟨i + 1, by omega, by go_num, by rw [HI1.out]; exact HOW.out, HBL.out⟩
                | ((repeat apply Exists.intro); refine And.intro ?_ rfl; exact ⟨i + 1, by omega, by go_num, by rw [HI1.out]; exact HOW.out, HBL.out⟩)
              case measure => simp [intOf]; omega
        · obtain rfl : 8 = i := by omega
          rw [HN8.out] at HOW hown ⊢
          have hN8 := HN8.out
          have hN8p : 0 < N8 := by have := HNB.out; omega
          clear hN8
          obtain ⟨gd, cd2, hde2, hgd, hgdl, hcd⟩ := row_shapeC hown hN8p
          cases hde2
          rw [HN8.out] at HFIN HTK
          have hsc : sz ≤ cd := by omega
          have hc0 : ¬ cd = 0 := by omega
          have HFB : Hid (ByAt wr (.slice (some ⟨gd, 0, none⟩) N8 cd) ((List.range N8).map (cbK k C))) := by
            have h := HOW.out
            rw [HFIN.out] at h
            exact row_by (bs := (List.range N8).map (cbK k C)) (by simpa using h)
          have hlen : ((List.range N8).map (cbK k C)).length = N8 := by simp
          have HFT := hidD (ByAt.take (n := sz) (by rw [hlen]; exact HFB.out) (by omega))
          rw [← HTK.out] at HFT
          clear hlen hown
          go_wp2_with fail
          refine bodyPost_ret (v := .slice (some ⟨gd, 0, none⟩) sz cd) (by simp [results, Try.results29, go_sem]) rfl ⟨gd, cd, rfl, Nat.le_trans HBW.out.size hgd, hgdl, hsc, HFT.out, Below.next HBW.out HBL.out⟩
end Go.Proofs.Ytnldpofljeodiaa
/- What Sum and of of the document's answer for layer 8 answer. -/
namespace Go.Proofs.Ytnldpofljeodiaa
open Go.RowKit
set_option linter.unusedVariables false

def shaL (k : Nat) (L : List UInt8) : List UInt8 := dgL k (feedP k (newP k) L)
theorem shaL_len (k : Nat) (L : List UInt8) : (shaL k L).length = k / 8 := dgL_len _ _
/- a hash that was begun -/
def HkAt (w : World) (g k : Nat) : Prop := ∃ vk vh A vb, HaAt w g k vk vh A vb ∧ NsAt w .u64 vk (nkK k) (coS k) ∧ NsAt w .u64 vh 8 (hS k)
theorem HkAt.next {w w' : World} {g k : Nat} (h : HkAt w g k) (hb : Below w.heap.size w w') : HkAt w' g k := by
  obtain ⟨vk, vh, A, vb, h1, h2, h3⟩ := h
  exact ⟨vk, vh, A, vb, h1.next hb, h2.below hb, h3.below hb⟩
theorem HkAt.lt {w : World} {g k : Nat} (h : HkAt w g k) : g < w.heap.size := by
  obtain ⟨vk, vh, A, vb, h1, _⟩ := h
  exact row_lt h1
/- what a digest's call answers -/
def DgIs (w : World) (k : Nat) (L : List UInt8) (e : Ending) (w' : World) : Prop := ∃ g' cap, e = .returned (.slice (some ⟨g', 0, none⟩) (k / 8) cap) ∧ w.heap.size ≤ g' ∧ g' < w'.heap.size ∧ k / 8 ≤ cap ∧ ByAt w' (.slice (some ⟨g', 0, none⟩) (k / 8) cap) L ∧ Below w.heap.size w w'
set_option maxRecDepth 100000 in
set_option maxHeartbeats 1600000 in
theorem rOf_any (k : Nat) (hk : Kind k) (L : List UInt8) (hL : L.length ≤ 140737488354816) (a : Option Addr) (cap : Nat) (g : Nat) (w : World) (hH : HkAt w g k) (hB : ByAt w (.slice a L.length cap) L) : Calls Try.prog 59 #[.pointer (some ⟨g, 0, none⟩), .slice a L.length cap] w (DgIs w k (shaL k L)) := by
  obtain ⟨vk, vh, A, vb, h1, h2, h3⟩ := hH
  obtain ⟨ak, ck, rfl, _, _⟩ := id h2
  obtain ⟨ah, ch, rfl, _, _⟩ := id h3
  have HS : Hid (∀ (g : Nat) (w : World), HaAt w g k (.slice ak (nkK k) ck) (.slice ah 8 ch) 0 (.slice a L.length cap) → NsAt w .u64 (.slice ak (nkK k) ck) (nkK k) (coS k) → NsAt w .u64 (.slice ah 8 ch) 8 (hS k) → ByAt w (.slice a L.length cap) L → Calls Try.prog 29 #[.pointer (some ⟨g, 0, none⟩)] w (DgIs w k (shaL k L))) := fun g w q1 q2 q3 q4 => rHSum_any k hk 0 (by decide) (Nat.zero_mod _) (hS k) (newP_lt k hk) (fun _ => 0) L hL g _ _ _ w q1 q2 q3 q4
  have c0 : ∀ i : KB w [g], i.v.cell? ⟨g, 0, none⟩ = some (.int .i64 (k : Int)) := fun i => (i.cell (b := g) (by simp) _).trans (by rw [cell_of_row _ _ _ _ _ _ h1]; rfl)
  have c1 : ∀ i : KB w [g], i.v.cell? ⟨g, 1, none⟩ = some (.slice ak (nkK k) ck) := fun i => (i.cell (b := g) (by simp) _).trans (by rw [cell_of_row _ _ _ _ _ _ h1]; rfl)
  have c2 : ∀ i : KB w [g], i.v.cell? ⟨g, 2, none⟩ = some (.slice ah 8 ch) := fun i => (i.cell (b := g) (by simp) _).trans (by rw [cell_of_row _ _ _ _ _ _ h1]; rfl)
  have HN : Hid (∀ w0 : World, w0.heap = w.heap → Below w.heap.size w w0 → HaAt (w0.alloc (.cells #[.int .i64 (k : Int), .slice ak (nkK k) ck, .slice ah 8 ch, .int .u64 0, .slice a L.length cap] (54 : TypeId))) w.heap.size k (.slice ak (nkK k) ck) (.slice ah 8 ch) 0 (.slice a L.length cap)) := fun w0 h _ => by
    have := heap_alloc_last w0 (.cells #[.int .i64 (k : Int), .slice ak (nkK k) ck, .slice ah 8 ch, .int .u64 0, .slice a L.length cap] (54 : TypeId))
    rw [h] at this; exact this
  have HB1 : Hid (Below w.heap.size w (w.drew.alloc (.cells #[.int .i64 (k : Int), .slice ak (nkK k) ck, .slice ah 8 ch, .int .u64 0, .slice a L.length cap] (54 : TypeId)))) := (Below.refl _ _).drew.alloc (Nat.le_refl _) _
  have HC := hidD (HS.out w.heap.size _ (HN.out w.drew rfl (Below.refl _ _).drew) (h2.below HB1.out) (h3.below HB1.out) (hB.next HB1.out))
  clear h1 h2 h3 hB HN HS hk
  generalize nkK k = NK at *
  generalize L.length = LL at *
  generalize shaL k L = SL at *
  go_enter Try.func59, Try.ntmps59
  go_wp2_with fail
  refine wp_region_seg [0, 0, 0, 0, 0, 0, 0, 0, 0, 0, 0, 0, 0, 0, 99, 99] 0 14 [g] (by kernel_rfl) (by kernel_rfl) (by kernel_rfl) (by kernel_rfl) (by kernel_rfl) (by kernel_rfl) (by kernel_rfl) (by kernel_rfl) (fun _ _ _ _ _ h => h) ?_
  simp only [SegW, pk, Nat.reduceMul, Nat.reduceBEq, cond_true, cond_false]
  repeat (go_big_quiet_step (fail))
  refine wpQuiet_nil ?_
  clear c0 c1 c2
  go_wp2_with (go_at_call 29; refine HC.out.mono ?_; rintro e w2 ⟨g', cap', rfl, hg', hgl', hc', hby', hb'⟩)
  refine bodyPost_ret (v := .slice (some ⟨g', 0, none⟩) (k / 8) cap') (by simp [results, Try.results59, go_sem]) rfl ?_
  exact ⟨g', cap', rfl, Nat.le_trans HB1.out.size hg', hgl', hc', hby', Below.next HB1.out hb'⟩
/- a hash whose words lie elsewhere -/
def HfAt (w : World) (g k : Nat) (c : Nat → Nat) (A : Nat) (vb : Value) : Prop := ∃ gk ok ck gh oh ch, HaAt w g k (.slice (some ⟨gk, ok, none⟩) (nkK k) ck) (.slice (some ⟨gh, oh, none⟩) 8 ch) A vb ∧ NsAt w .u64 (.slice (some ⟨gk, ok, none⟩) (nkK k) ck) (nkK k) (coS k) ∧ NsAt w .u64 (.slice (some ⟨gh, oh, none⟩) 8 ch) 8 c ∧ gk ≠ g ∧ gh ≠ g
theorem HfAt.hk {w : World} {g k A : Nat} {vb : Value} (h : HfAt w g k (hS k) A vb) : HkAt w g k := by
  obtain ⟨gk, ok, ck, gh, oh, ch, h1, h2, h3, _⟩ := h
  exact ⟨_, _, _, _, h1, h2, h3⟩
theorem HfAt.next {w w' : World} {g k A : Nat} {c : Nat → Nat} {vb : Value} (h : HfAt w g k c A vb) (hb : Below w.heap.size w w') : HfAt w' g k c A vb := by
  obtain ⟨gk, ok, ck, gh, oh, ch, h1, h2, h3, h4, h5⟩ := h
  exact ⟨gk, ok, ck, gh, oh, ch, h1.next hb, h2.below hb, h3.below hb, h4, h5⟩
theorem HfAt.lt {w : World} {g k A : Nat} {c : Nat → Nat} {vb : Value} (h : HfAt w g k c A vb) : g < w.heap.size := by
  obtain ⟨gk, ok, ck, gh, oh, ch, h1, _⟩ := h
  exact row_lt h1
theorem NsAt.other {w : World} {kd : IntKind} {g0 o n cap g q : Nat} {f : Nat → Nat} (h : NsAt w kd (.slice (some ⟨g0, o, none⟩) n cap) n f) (hne : g0 ≠ g) (u : Value) : NsAt (w.setCell ⟨g, q, none⟩ u) kd (.slice (some ⟨g0, o, none⟩) n cap) n f := by
  obtain ⟨a, c, he, hc, hh⟩ := h
  cases he
  refine ⟨_, _, rfl, hc, fun j hj => ?_⟩
  obtain ⟨g', o', he', h1, h2⟩ := hh j hj
  cases he'
  exact ⟨_, _, rfl, by simpa using h1, (World.cell?_of_block (heap_setCell_other w ⟨g, q, none⟩ g0 u hne)).trans h2⟩
theorem NsAt.apart {w : World} {g g0 o n cap k A : Nat} {f : Nat → Nat} {a1 a2 a3 : Option Addr} {l1 l2 l3 c1 c2 c3 : Nat} (h : NsAt w .u64 (.slice (some ⟨g0, o, none⟩) n cap) n f) (hn : 2 ≤ n) (hH : HaAt w g k (.slice a1 l1 c1) (.slice a2 l2 c2) A (.slice a3 l3 c3)) : g0 ≠ g := by
  rintro rfl
  obtain ⟨a, c, he, hc, hh⟩ := h
  cases he
  have e0 : w.cell? ⟨g0, o, none⟩ = some (.int .u64 (f 0 : Int)) := by
    obtain ⟨g', o', he', _, h2⟩ := hh 0 (by omega)
    cases he'; exact h2
  have e1 : w.cell? ⟨g0, o + 1, none⟩ = some (.int .u64 (f 1 : Int)) := by
    obtain ⟨g', o', he', _, h2⟩ := hh 1 (by omega)
    cases he'; exact h2
  rw [cell_of_row _ _ _ _ _ _ hH] at e0 e1
  rcases o with _ | _ | _ | _ | _ | o
  · simp at e1
  · simp at e0
  · simp at e0
  · simp at e1
  · simp at e0
  · simp at e0
theorem HfAt.setB {w : World} {g k A : Nat} {c : Nat → Nat} {vb : Value} (h : HfAt w g k c A vb) (vb' : Value) : HfAt (w.setCell ⟨g, 4, none⟩ vb') g k c A vb' := by
  obtain ⟨gk, ok, ck, gh, oh, ch, h1, h2, h3, h4, h5⟩ := h
  refine ⟨gk, ok, ck, gh, oh, ch, ?_, h2.other h4 _, h3.other h5 _, h4, h5⟩
  exact heap_setCell_same w g 4 _ _ _ h1
theorem HfAt.setA {w : World} {g k A : Nat} {c : Nat → Nat} {vb : Value} (h : HfAt w g k c A vb) (A' : Nat) : HfAt (w.setCell ⟨g, 3, none⟩ (.int .u64 (A' : Int))) g k c A' vb := by
  obtain ⟨gk, ok, ck, gh, oh, ch, h1, h2, h3, h4, h5⟩ := h
  refine ⟨gk, ok, ck, gh, oh, ch, ?_, h2.other h4 _, h3.other h5 _, h4, h5⟩
  exact heap_setCell_same w g 3 _ _ _ h1
theorem HfAt.setH {w : World} {g k A : Nat} {c c' : Nat → Nat} {vb : Value} (h : HfAt w g k c A vb) {gh oh ch : Nat} (hn : NsAt w .u64 (.slice (some ⟨gh, oh, none⟩) 8 ch) 8 c') (hne : gh ≠ g) : HfAt (w.setCell ⟨g, 2, none⟩ (.slice (some ⟨gh, oh, none⟩) 8 ch)) g k c' A vb := by
  obtain ⟨gk, ok, ck, gh', oh', ch', h1, h2, h3, h4, h5⟩ := h
  refine ⟨gk, ok, ck, gh, oh, ch, ?_, h2.other h4 _, hn.other hne _, h4, hne⟩
  exact heap_setCell_same w g 2 _ _ _ h1
theorem HfAt.cells {w : World} {g k A : Nat} {c : Nat → Nat} {vb : Value} (h : HfAt w g k c A vb) : w.cell? ⟨g, 4, none⟩ = some vb ∧ w.cell? ⟨g, 3, none⟩ = some (.int .u64 (A : Int)) ∧ (∃ v, w.cell? ⟨g, 2, none⟩ = some v) ∧ ∀ q, w.frozen? ⟨g, q, none⟩ = false := by
  obtain ⟨gk, ok, ck, gh, oh, ch, h1, h2, h3, h4, h5⟩ := h
  exact ⟨by rw [cell_of_row _ _ _ _ _ _ h1]; rfl, by rw [cell_of_row _ _ _ _ _ _ h1]; rfl, ⟨_, by rw [cell_of_row _ _ _ _ _ _ h1]; rfl⟩, fun q => frozen_of_row _ _ _ _ _ h1⟩
theorem HfAt.sum {w : World} {g k A : Nat} {c : Nat → Nat} {a : Option Addr} {cap : Nat} {L : List UInt8} (h : HfAt w g k c A (.slice a L.length cap)) (hk : Kind k) (hA : A < 18446744073709551616) (hA0 : A % blkN k = 0) (hcl : ∀ j, c j < mdK k) (hL : L.length ≤ 140737488354816) (hB : ByAt w (.slice a L.length cap) L) : Calls Try.prog 29 #[.pointer (some ⟨g, 0, none⟩)] w (DgIs w k (dgL k (feedP k ⟨A, fun _ => 0, c⟩ L))) := by
  obtain ⟨gk, ok, ck, gh, oh, ch, h1, h2, h3, h4, h5⟩ := h
  exact rHSum_any k hk A hA hA0 c hcl (fun _ => 0) L hL g _ _ _ w h1 h2 h3 hB
theorem rBegin2_any (k : Nat) (hk : Kind k) (w : World) : Calls Try.prog 31 #[.int .i64 (k : Int)] w fun e w' => ∃ g, e = .returned (.tuple #[.pointer (some ⟨g, 0, none⟩), .int .i64 0]) ∧ w.heap.size ≤ g ∧ HfAt w' g k (hS k) 0 (.slice none 0 0) ∧ Below w.heap.size w w' := (rBegin_any k hk w).mono fun e w' ⟨g, vk, vh, he, hg, h1, h2, h3, hb⟩ => by
  obtain ⟨ak, ck, rfl, _, hhk⟩ := id h2
  obtain ⟨ah, ch, rfl, _, hhh⟩ := id h3
  have hnk := nk_le k
  obtain ⟨gk, ok, rfl, _, _⟩ := hhk 0 (by omega)
  obtain ⟨gh, oh, rfl, _, _⟩ := hhh 0 (by omega)
  exact ⟨g, he, hg, ⟨gk, ok, ck, gh, oh, ch, h1, h2, h3, h2.apart (by omega) h1, h3.apart (by omega) h1⟩, hb⟩
set_option maxRecDepth 100000 in
set_option maxHeartbeats 1600000 in
theorem rSum_any (k : Nat) (hk : Kind k) (L : List UInt8) (hL : L.length ≤ 140737488354816) (a : Option Addr) (cap : Nat) (w : World) (hB : ByAt w (.slice a L.length cap) L) : Calls Try.prog 10 #[.int .i64 (k : Int), .slice a L.length cap] w fun e w' => ∃ g' cap', e = .returned (.tuple #[.slice (some ⟨g', 0, none⟩) (k / 8) cap', .int .i64 0]) ∧ k / 8 ≤ cap' ∧ ByAt w' (.slice (some ⟨g', 0, none⟩) (k / 8) cap') (shaL k L) ∧ Below w.heap.size w w' := by
  have HBG := hidD (rBegin2_any k hk)
  have HS : Hid (∀ (g : Nat) (w : World), HfAt w g k (hS k) 0 (.slice a L.length cap) → ByAt w (.slice a L.length cap) L → Calls Try.prog 29 #[.pointer (some ⟨g, 0, none⟩)] w (DgIs w k (shaL k L))) := fun g w q1 q2 => q1.sum hk (by decide) (Nat.zero_mod _) (newP_lt k hk) hL q2
  have HBY := hidD hB
  clear hB
  generalize hLL : L.length = LL at *
  clear hLL
  go_enter Try.func10, Try.ntmps10
  go_wp2_with (first
    | (go_at_call 31; refine (HBG.out _).mono ?_; rintro e w1 ⟨g, rfl, hg, hh, hb1⟩; have hc4 := hh.cells.1; have hf4 := hh.cells.2.2.2 4; have HW : Hid (Below w.heap.size w (w1.setCell ⟨g, 4, none⟩ (.slice a LL cap))) := below_setCell hb1 hg 4 _; have HX := hidD (HS.out g _ (hh.setB (.slice a LL cap)) (HBY.out.next HW.out)); clear hh hb1 hg HBG HS)
    | (go_at_call 29; refine HX.out.mono ?_; rintro e w2 ⟨g', cap', rfl, hg', hgl', hc', hby', hb'⟩))
  refine bodyPost_ret (v := .tuple #[.slice (some ⟨g', 0, none⟩) (k / 8) cap', .int .i64 0]) (by simp [results, Try.results10, go_sem]) rfl ?_
  exact ⟨g', cap', rfl, hc', hby', Below.next HW.out hb'⟩
set_option maxRecDepth 100000 in
theorem rSum_no (x : Int) (h : x ≠ 224 ∧ x ≠ 256 ∧ x ≠ 384 ∧ x ≠ 512) (sl : Value) (w : World) : Calls Try.prog 10 #[.int .i64 x, sl] w fun e w' => e = .returned (.tuple #[.slice none 0 0, .int .i64 1]) ∧ Below w.heap.size w w' := by
  have HBG := hidD (rBegin_no x h)
  clear h
  go_enter Try.func10, Try.ntmps10
  go_wp2_with (go_at_call 31; refine (HBG.out _).mono ?_; rintro e w1 ⟨rfl, hb1⟩)
  refine bodyPost_ret (v := .tuple #[.slice none 0 0, .int .i64 1]) (by simp [results, Try.results10, go_sem]) rfl ⟨rfl, hb1⟩
end Go.Proofs.Ytnldpofljeodiaa
