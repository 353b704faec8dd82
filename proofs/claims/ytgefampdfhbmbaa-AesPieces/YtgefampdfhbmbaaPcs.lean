/- AesPieces: the walk. -/
import Derived.Test.YtgefampdfhbmbaaLw3
import Derived.Test.YtgefampdfhbmbaaPcq
import Derived.Test.YtgefampdfhbmbaaMds
namespace Go.Proofs.Ytgefampdfhbmbaa
open Go.RowKit
set_option linter.unusedVariables false

set_option maxRecDepth 100000 in
set_option maxHeartbeats 800000 in
theorem pieces_no (l : List UInt8) (h16 : l.length ≠ 16) (h24 : l.length ≠ 24) (h32 : l.length ≠ 32) (c1 c2 : Int) (m : UInt8) (v x u : Value) (w : World) (hv : ByAt w v l) : Calls Try.prog 8 #[v, x, u, .int .i64 c1, .int .i64 c2, .int .u8 (m.toNat : Int)] w fun e w' => e = .returned (.bool true) ∧ Below w.heap.size w w' := by
  have HAV := hidD alive_any
  have HPN : Hid (∀ wA, Below w.heap.size w wA → Calls Try.prog 38 #[v] wA fun e w' => e = .returned (.tuple #[.pointer none, .int .i64 90]) ∧ Below wA.heap.size wA w') := fun wA hb => pNew_no l h16 h24 h32 v wA (hv.next hb)
  obtain ⟨a', cap, rfl, _⟩ := hv.shape
  clear hv h16 h24 h32
  generalize l.length = LL at *
  go_enter Try.func8, Try.ntmps8
  go_wp2_with (first
    | (go_at_call 10; refine (HAV.out _).mono ?_; rintro e w1 ⟨rfl, hb1⟩; have HB1 := hidD hb1; clear hb1)
    | (go_at_call 38; refine (HPN.out _ HB1.out).mono ?_; rintro e w2 ⟨rfl, hb2⟩; have HB2 : Hid (Below w.heap.size w w2) := Below.next HB1.out hb2; clear hb2))
  go_ret
  exact ⟨rfl, HB2.out⟩
set_option maxRecDepth 100000 in
set_option maxHeartbeats 800000 in
theorem pieces_short (l s : List UInt8) (n : Nat) (hn : n = 4 ∨ n = 6 ∨ n = 8) (hl : l.length = 4 * n) (hs : s.length ≠ 16) (c1 c2 : Int) (m : UInt8) (v x u : Value) (w : World) (hv : SlAt w v l) (hx : SlAt w x s) : Calls Try.prog 8 #[v, x, u, .int .i64 c1, .int .i64 c2, .int .u8 (m.toNat : Int)] w fun e w' => e = .returned (.bool true) ∧ Below w.heap.size w w' := by
  have HAV := hidD alive_any
  have HPN : Hid (∀ wA, Below w.heap.size w wA → Calls Try.prog 38 #[v] wA fun e w' => ∃ p, e = .returned (.tuple #[.pointer (some ⟨p, 0, none⟩), .int .i64 0]) ∧ AcAt w' wA.heap.size p n (blk l) ∧ Below wA.heap.size wA w') := fun wA hb => pNew_any l n hn hl v wA (hv.next hb)
  have e1 : ((s.length : Int) != 16) = true := by
    have : ¬ ((s.length : Int) = 16) := by omega
    simpa using this
  obtain ⟨a', cap, rfl, _⟩ := hv.shape
  obtain ⟨ax, cx, rfl, _, _⟩ := hx.shape
  clear hv hx hs hn hl
  generalize l.length = LL at *
  generalize s.length = SL at *
  go_enter Try.func8, Try.ntmps8
  go_wp2_with (first
    | (go_at_call 10; refine (HAV.out _).mono ?_; rintro e w1 ⟨rfl, hb1⟩; have HB1 := hidD hb1; clear hb1)
    | (go_at_call 38; refine (HPN.out _ HB1.out).mono ?_; rintro e w2 ⟨p, rfl, ha2, hb2⟩; have HB2 : Hid (Below w.heap.size w w2) := Below.next HB1.out hb2; clear hb2 ha2))
  go_ret
  exact ⟨rfl, HB2.out⟩
theorem sl_take {w : World} {a : Option Addr} {cap n : Nat} {l : List UInt8} (h : SlAt w (.slice a l.length cap) l) (hn : n ≤ l.length) : SlAt w (.slice a n cap) (l.take n) := by
  obtain ⟨a', cap', he, h1, h2⟩ := h.shape
  cases he
  refine ⟨⟨a, cap, by rw [List.length_take, Nat.min_eq_left hn], by rw [List.length_take]; omega, h2⟩, h.by'.take hn⟩
theorem cell_ownD {w : World} {B g cap n k : Nat} {l : List UInt8} (h : w.ownsRow B 5 1 (.slice (some ⟨g, 0, none⟩) n cap) n (l.map encB)) (hl : l.length = n) (hk : k < n) : w.cell? ⟨g, k, none⟩ = some (.int .u8 ((l.getD k 0).toNat : Int)) := by
  rw [(own_cell h hk).1, List.getElem?_map, List.getElem?_eq_getElem (by omega), List.getD_eq_getElem?_getD, List.getElem?_eq_getElem (by omega)]; rfl
theorem own_turn {w : World} {B g cap n k : Nat} {l : List UInt8} (h : w.ownsRow B 5 1 (.slice (some ⟨g, 0, none⟩) n cap) n (l.map encB)) (hl : l.length = n) (hk : k < n) (m : UInt8) : (w.setCell ⟨g, k, none⟩ (.int .u8 ((l.getD k 0 ^^^ m).toNat : Int))).ownsRow B 5 1 (.slice (some ⟨g, 0, none⟩) n cap) n ((turnS l k m).map encB) := by
  have := own_set h hk (.int .u8 ((l.getD k 0 ^^^ m).toNat : Int))
  unfold turnS
  rw [List.map_set]; exact this
theorem tmod_small (c : Int) {n : Nat} (h0 : 0 < n) (hn : n ≤ 140737488355200) : wrap64 (c.tmod n + n) = c.tmod n + n := by
  have h1 := Int.tmod_lt_of_pos (-c) (b := n) (by omega)
  rw [Int.neg_tmod] at h1
  have h2 := Int.tmod_lt_of_pos c (b := n) (by omega)
  generalize c.tmod n = t at *
  unfold wrap64
  omega
set_option maxRecDepth 100000 in
set_option maxHeartbeats 3200000 in
theorem pieces_any (l s d : List UInt8) (n : Nat) (hn : n = 4 ∨ n = 6 ∨ n = 8) (hl : l.length = 4 * n) (hs : s.length = 16) (hd : d.length ≤ 140737488355100) (c1 c2 : Int) (m : UInt8) (v x u : Value) (w : World) (hv : SlAt w v l) (hx : SlAt w x s) (hu : SlAt w u d) : Calls Try.prog 8 #[v, x, u, .int .i64 c1, .int .i64 c2, .int .u8 (m.toNat : Int)] w fun e w' => e = .returned (.bool true) ∧ Below w.heap.size w w' := by
  have hn8 : n ≤ 8 := by omega
  have HAV := hidD alive_any
  have HPN : Hid (∀ wA, Below w.heap.size w wA → Calls Try.prog 38 #[v] wA fun e w' => ∃ p, e = .returned (.tuple #[.pointer (some ⟨p, 0, none⟩), .int .i64 0]) ∧ AcAt w' wA.heap.size p n (blk l) ∧ Below wA.heap.size wA w') := fun wA hb => pNew_any l n hn hl v wA (hv.next hb)
  have HPD : Hid (∀ wA, Below w.heap.size w wA → Calls Try.prog 32 #[u] wA fun e w' => ∃ vo, e = .returned vo ∧ SlAt w' vo (padS d) ∧ Below wA.heap.size wA w') := fun wA hb => pPad_any d (by omega) u wA (hu.next hb).by'
  have hPw := pad_whole d
  have hPl : (padS d).length ≤ 140737488355200 := by rw [pad_len]; unfold padN; omega
  /- where the data are cut -/
  obtain ⟨N, hNl, hNt⟩ : ∃ N : Nat, N ≤ d.length ∧ (0 < d.length → (c1.tmod d.length + d.length).tmod d.length = (N : Int)) ∧ (d.length = 0 → N = 0) := by
    by_cases h0 : 0 < d.length
    · obtain ⟨N, h1, h2⟩ := place c1 h0
      exact ⟨N, by omega, fun _ => h2, fun h => by omega⟩
    · exact ⟨0, by omega, fun h => absurd h h0, fun _ => rfl⟩
  obtain ⟨K, hKl, hKt⟩ := place c2 hPw.2
  have HC1 : Hid (∀ B p wA, AcAt wA B p n (blk l) → Below w.heap.size w wA → Calls Try.prog 22 #[.pointer (some ⟨p, 0, none⟩), x, u] wA fun e w' => ∃ vo, e = .returned (.tuple #[vo, .int .i64 0]) ∧ SlAt w' vo (cntS (enS (n + 6) (rkS n (blk l))) (blk s) d) ∧ Below wA.heap.size wA w') := fun B p wA ha hb => pCounter_any s d hs (by omega) n B p hn8 (blk l) x u wA ha (hx.next hb).by' (hu.next hb)
  have HC2 : Hid (∀ B p wA vA, AcAt wA B p n (blk l) → Below w.heap.size w wA → SlAt wA vA (d.take N) → Calls Try.prog 22 #[.pointer (some ⟨p, 0, none⟩), x, vA] wA fun e w' => ∃ vo, e = .returned (.tuple #[vo, .int .i64 0]) ∧ SlAt w' vo ((cntS (enS (n + 6) (rkS n (blk l))) (blk s) d).take N) ∧ Below wA.heap.size wA w') := fun B p wA vA ha hb hA => by
    have h1 := pCounter_any s (d.take N) hs (by rw [List.length_take]; omega) n B p hn8 (blk l) x vA wA ha (hx.next hb).by' hA
    rw [cnt_take _ _ _ hNl] at h1; exact h1
  have HC3 : Hid (∀ M B p wA vA, M.length = (padS d).length → AcAt wA B p n (blk l) → Below w.heap.size w wA → SlAt wA vA M → Calls Try.prog 24 #[.pointer (some ⟨p, 0, none⟩), x, vA] wA fun e w' => ∃ vo, e = .returned (.tuple #[vo, .int .i64 0]) ∧ SlAt w' vo (chS (enS (n + 6) (rkS n (blk l))) (blk s) M) ∧ Below wA.heap.size wA w') := fun M B p wA vA hM ha hb hA => pChain_any s M hs (by rw [hM]; omega) (by rw [hM]; exact hPw.1) n B p hn8 (blk l) x vA wA ha (hx.next hb).by' hA
  have hE : ∀ {a b}, Same16 a b → Same16 (enS (n + 6) (rkS n (blk l)) a) (enS (n + 6) (rkS n (blk l)) b) := fun h => en_same h (n + 6)
  have hI : ∀ {a b}, Same16 (enS (n + 6) (rkS n (blk l)) a) (enS (n + 6) (rkS n (blk l)) b) → Same16 a b := fun h => en_one h
  have F1 := hidD (chain_ahead (E := enS (n + 6) (rkS n (blk l))) (blk s) (padS d) hKl m hE)
  have F2 := hidD (chain_here (E := enS (n + 6) (rkS n (blk l))) (blk s) (padS d) hKl hPw.1 m hE hI)
  have F3 : Hid (16 * (K / 16) + 32 ≤ (padS d).length → (toL (bkA (chS (enS (n + 6) (rkS n (blk l))) (blk s) (padS d)) (K / 16 + 1)) = toL (bkA (chS (enS (n + 6) (rkS n (blk l))) (blk s) (turnS (padS d) K m)) (K / 16 + 1)) ↔ m = 0)) := fun h => chain_next (E := enS (n + 6) (rkS n (blk l))) (blk s) (padS d) hKl h hPw.1 m hE hI
  have HTL := hidD (turn_len (padS d) K m)
  have HCL : Hid (∀ M, (chS (enS (n + 6) (rkS n (blk l))) (blk s) M).length = M.length) := fun M => ch_len _ _ _
  have HNL : Hid ((cntS (enS (n + 6) (rkS n (blk l))) (blk s) d).length = d.length) := cnt_len _ _ _
  have HSM : Hid (∀ (L : List UInt8) wA u v, ByAt wA u L → ByAt wA v L → Calls Try.prog 13 #[u, v] wA fun e w' => e = .returned (.bool true) ∧ w' = wA) := fun L wA u v hu hv => by
    have := same_any L L u v wA hu hv
    rw [decide_eq_true rfl] at this
    exact this
  have HSD : Hid (∀ (L M : List UInt8) wA u v, ByAt wA u L → ByAt wA v M → Calls Try.prog 13 #[u, v] wA fun e w' => e = .returned (.bool (decide (L = M))) ∧ Below wA.heap.size wA w') := fun L M wA u v hu hv => (same_any L M u v wA hu hv).mono fun e w' h => ⟨h.1, by rw [h.2]; exact Below.refl _ _⟩
  have HOW : Hid (∀ wA vA, SlAt wA vA (padS d) → Calls Try.prog 15 #[vA] wA fun e w' => ∃ vo, e = .returned vo ∧ w'.ownsRow wA.heap.size 5 1 vo (padS d).length ((padS d).map encB) ∧ Below wA.heap.size wA w') := fun wA vA h => own_any (padS d) hPl vA wA h.by'
  have HU : Hid (∀ wA, Below w.heap.size w wA → SlAt wA u d) := fun wA hb => hu.next hb
  have e1 : ((s.length : Int) != 16) = false := by
    have : ((s.length : Int) = 16) := by omega
    simpa using this
  obtain ⟨a', cap, rfl, _⟩ := hv.shape
  obtain ⟨ax, cx, rfl, _, _⟩ := hx.shape
  obtain ⟨au, cu, rfl, hcu, _⟩ := hu.shape
  clear hv hx hu hn hl hs hE hI hn8
  generalize enS (n + 6) (rkS n (blk l)) = E at *
  generalize blk l = key at *
  generalize blk s = first at *
  generalize l.length = LL at *
  generalize s.length = SL at *
  have HNL2 := hidD hNl
  have HKL := hidD hKl
  have HPW := hidD hPw
  have HPL := hidD hPl
  generalize hCT : cntS E first d = CT at *
  clear hCT
  generalize hPD : padS d = PD at *
  clear hPD
  generalize hDD : d.length = DL at *
  have HDD := hidD hDD
  clear hDD
  generalize hLL : PD.length = PL at *
  have HLL := hidD hLL
  clear hLL
  have HTK : Hid (∀ wA, Below w.heap.size w wA → SlAt wA (.slice au N cu) (d.take N)) := fun wA hb => sl_take (by rw [HDD.out]; exact HU.out wA hb) (by rw [HDD.out]; exact hNl)
  have HXK : Hid (∀ wA a c, SlAt wA (.slice a DL c) CT → ByAt wA (.slice a N c) (CT.take N)) := fun wA a c h => (sl_take (by rw [HNL.out]; exact h) (by rw [HNL.out]; exact hNl)).by'
  have hNi : (N : Int) ≤ (DL : Int) := by omega
  have hKi : (K : Int) < (PL : Int) := by omega
  have hPL : 16 ≤ PL := by have := HPW.out; omega
  have hPLi : ¬ ((PL : Int) = 0) := by omega
  have hxr : bits .xor .u8 ((PD.getD K 0).toNat : Int) (m.toNat : Int) = ((PD.getD K 0 ^^^ m).toNat : Int) := by rw [UInt8.toNat_xor]; exact u8_xor_nat _ _ (u8_lt _) (u8_lt _)
  have HC6 : Hid (∀ (wA : World) (B g cap : Nat), wA.ownsRow B 5 1 (.slice (some ⟨g, 0, none⟩) PL cap) PL (PD.map encB) → wA.cell? ⟨g, K, none⟩ = some (.int .u8 ((PD.getD K 0).toNat : Int)) ∧ wA.frozen? ⟨g, K, none⟩ = false ∧ (wA.setCell ⟨g, K, none⟩ (.int .u8 ((PD.getD K 0 ^^^ m).toNat : Int))).ownsRow B 5 1 (.slice (some ⟨g, 0, none⟩) PL cap) PL ((turnS PD K m).map encB)) := fun wA B g cap h => ⟨cell_ownD h HLL.out HKL.out, (own_cell h HKL.out).2.1, own_turn h HLL.out HKL.out m⟩
  generalize ((PD.getD K 0 ^^^ m).toNat : Int) = Z at *
  generalize ((PD.getD K 0).toNat : Int) = X at *
  have hQ2 : (K : Int) / 16 = ((K / 16 : Nat) : Int) := by omega
  have hQ3 : ((K / 16 : Nat) : Int) * 16 = ((16 * (K / 16) : Nat) : Int) := by omega
  have HQB : Hid (16 * (K / 16) + 16 ≤ PL ∧ PL % 16 = 0) := by show _ ∧ _; have := HPW.out; omega
  have HBE : Hid (16 * (K / 16) = 16 * (K / 16)) := rfl
  generalize hBB : 16 * (K / 16) = B at *
  have HBB := hidD hBB
  clear hBB HBE
  generalize K / 16 = Q at *
  have hmz : ((m.toNat : Int) == 0) = decide (m = 0) := by
    by_cases h : m = 0
    · subst h; rfl
    · rw [decide_eq_false h]
      have : ¬ ((m.toNat : Int) = 0) := fun h2 => h (UInt8.toNat.inj (show m.toNat = 0 from Int.ofNat.inj h2))
      simpa using this
  have F2d : Hid (decide (toL (bkA (chS E first PD) Q) = toL (bkA (chS E first (turnS PD K m)) Q)) = decide (m = 0)) := decide_eq_decide.2 F2.out
  have F3d : Hid (B + 32 ≤ PL → decide (toL (bkA (chS E first PD) (Q + 1)) = toL (bkA (chS E first (turnS PD K m)) (Q + 1))) = decide (m = 0)) := fun h => decide_eq_decide.2 (F3.out h)
  generalize decide (m = 0) = MZ at *
  clear F2 F3
  generalize (m.toNat : Int) = MV at *
  generalize hTN : turnS PD K m = TN at *
  clear hTN
  by_cases h0 : 0 < DL
  · have h0i : (0 : Int) < (DL : Int) := by omega
    have hNt1 : (wrap64 (c1.tmod DL + DL)).tmod DL = (N : Int) := by
      rw [tmod_small c1 h0 (by omega)]; exact hNt.1 h0
    have hKt1 : (wrap64 (c2.tmod PL + PL)).tmod PL = (K : Int) := by
      rw [tmod_small c2 (by omega) hPl]; exact hKt
    have h0n : ¬ ((DL : Int) = 0) := by omega
    clear hNt
    go_enter Try.func8, Try.ntmps8
    go_wp2_with (first
      | (go_at_call 10; refine (HAV.out _).mono ?_; rintro e w1 ⟨rfl, hb1⟩; have HB1 := hidD hb1; clear hb1)
      | (go_at_call 38; refine (HPN.out _ HB1.out).mono ?_; rintro e w2 ⟨p, rfl, ha2, hb2⟩; have HA2 := hidD ha2; have HB2 : Hid (Below w.heap.size w w2) := Below.next HB1.out hb2; clear hb2 ha2)
      | (go_at_call 22; refine (HC1.out _ _ _ HA2.out HB2.out).mono ?_; rintro e w3 ⟨vo, rfl, hx3, hb3⟩; obtain ⟨a3, c3, hv3, hl3, _⟩ := hx3.shape; rw [HNL.out] at hv3 hl3; subst hv3; have HX3 := hidD hx3; have HA3 := hidD (HA2.out.next hb3); have HB3 : Hid (Below w.heap.size w w3) := Below.next HB2.out hb3; clear hb3 hx3 HC1)
      | (go_at_call 22; refine (HC2.out _ _ _ _ HA3.out HB3.out (HTK.out _ HB3.out)).mono ?_; rintro e w4 ⟨vo, rfl, hx4, hb4⟩; obtain ⟨a4, n4, c4, hv4⟩ := sl_shape hx4; subst hv4; have HY4 := hidD hx4; have HX4 := hidD (HX3.out.next hb4); have HA4 := hidD (HA3.out.next hb4); have HB4 : Hid (Below w.heap.size w w4) := Below.next HB3.out hb4; clear hb4 hx4 HC2)
      | (go_at_call 13; refine (HSM.out _ _ _ _ (HXK.out _ _ _ HX4.out) HY4.out.by').mono ?_; rintro e wz ⟨rfl, hwz⟩; subst hwz; clear HY4)
      | (go_at_call 32; refine (HPD.out _ HB4.out).mono ?_; rintro e w5 ⟨vo, rfl, hx5, hb5⟩; obtain ⟨a5, c5, hv5, hl5, _⟩ := hx5.shape; rw [HLL.out] at hv5 hl5; subst hv5; have HP5 := hidD hx5; have HA5 := hidD (HA4.out.next hb5); have HB5 : Hid (Below w.heap.size w w5) := Below.next HB4.out hb5; clear hb5 hx5 HPD)
      | (go_at_call 15; refine (HOW.out _ _ HP5.out).mono ?_; rintro e w6 ⟨vo, rfl, hx6, hb6⟩; obtain ⟨g6, c6, hv6, hg6, hgl6, _⟩ := row_shapeC hx6 (by omega); subst hv6; have HO6 := hidD hx6; have HP6 := hidD (HP5.out.next hb6); have HA6 := hidD (HA5.out.next hb6); have HB6 : Hid (Below w.heap.size w w6) := Below.next HB5.out hb6; have HG6 := hidD hg6; obtain ⟨hc6, hf6, hs6⟩ := HC6.out _ _ _ _ hx6; have HS6 := hidD hs6; have HX6 : Hid (∀ u, Below w5.heap.size w5 (w6.setCell ⟨g6, K, none⟩ u)) := (fun u => below_setCell hb6 hg6 _ u); clear hb6 hx6 HOW hg6 hgl6 hs6)
      | (go_at_call 24; refine (HC3.out PD _ _ _ _ HLL.out (HA5.out.next (HX6.out _)) (Below.next HB5.out (HX6.out _)) (HP5.out.next (HX6.out _))).mono ?_; rintro e w8 ⟨vo, rfl, hx8, hb8⟩; obtain ⟨a8, c8, hv8, hl8, _⟩ := hx8.shape; rw [HCL.out, HLL.out] at hv8 hl8; subst hv8; have HU8 := hidD hx8; have HO8 := hidD (sl_ownD (row_below HS6.out hb8)); have HA8 := hidD ((HA5.out.next (HX6.out (.int .u8 Z))).next hb8); have HB8 : Hid (Below w.heap.size w w8) := Below.next (Below.next HB5.out (HX6.out (.int .u8 Z))) hb8; clear hb8 hx8 HA5 HP5)
      | (go_at_call 24; refine (HC3.out TN _ _ _ _ HTL.out HA8.out HB8.out HO8.out).mono ?_; rintro e w9 ⟨vo, rfl, hx9, hb9⟩; obtain ⟨a9, c9, hv9, hl9, _⟩ := hx9.shape; rw [HCL.out, HTL.out] at hv9 hl9; subst hv9; have HV9 := hidD hx9; have HU9 := hidD (HU8.out.next hb9); have HB9 : Hid (Below w.heap.size w w9) := Below.next HB8.out hb9; clear hb9 hx9))
    have HSU : Hid (∃ g o, a8 = some ⟨g, o, none⟩) := by
      obtain ⟨a', c', he, hsh⟩ := HU9.out.by'.shape
      rw [HCL.out, HLL.out] at he
      cases he
      obtain ⟨g, o, h1, _⟩ := hsh 0 (by rw [HCL.out, HLL.out]; omega)
      exact ⟨g, o, h1⟩
    have HSV : Hid (∃ g o, a9 = some ⟨g, o, none⟩) := by
      obtain ⟨a', c', he, hsh⟩ := HV9.out.by'.shape
      rw [HCL.out, HTL.out] at he
      cases he
      obtain ⟨g, o, h1, _⟩ := hsh 0 (by rw [HCL.out, HTL.out]; omega)
      exact ⟨g, o, h1⟩
    obtain ⟨g8, o8, h8e⟩ := HSU.out
    subst h8e
    obtain ⟨g9, o9, h9e⟩ := HSV.out
    subst h9e
    have HQ1 : Hid (∀ i : BW w9, Calls Try.prog 13 #[.slice (some ⟨g8, o8, none⟩) B c8, .slice (some ⟨g9, o9, none⟩) B c9] i.v fun e w' => e = .returned (.bool true) ∧ Below i.v.heap.size i.v w') := fun i => by
      have h1 : ByAt i.v (.slice (some ⟨g8, o8, none⟩) B c8) ((chS E first PD).take B) := (sl_take (by rw [HCL.out, HLL.out]; exact HU9.out.next i.below) (by rw [HCL.out, HLL.out]; have := HQB.out; omega)).by'
      have h2 : ByAt i.v (.slice (some ⟨g9, o9, none⟩) B c9) ((chS E first PD).take B) := by
        rw [F1.out]
        exact (sl_take (by rw [HCL.out, HTL.out]; exact HV9.out.next i.below) (by rw [HCL.out, HTL.out]; have := HQB.out; omega)).by'
      have h3 := HSD.out _ _ _ _ _ h1 h2
      rw [decide_eq_true rfl] at h3
      exact h3
    have HQ2 : Hid (∀ (i : BW w9) (d8 d9 : Nat), Calls Try.prog 13 #[.slice (some ⟨g8, o8 + B, none⟩) 16 d8, .slice (some ⟨g9, o9 + B, none⟩) 16 d9] i.v fun e w' => e = .returned (.bool MZ) ∧ Below i.v.heap.size i.v w') := fun i d8 d9 => by
      have h1 := by_piece (q := Q) (cap := c8) (g := g8) (off := o8) (d := chS E first PD) (by rw [HCL.out, HLL.out]; exact (HU9.out.next i.below).by') (by rw [HCL.out, HLL.out]; have := HQB.out; have := HBB.out; omega) d8
      have h2 := by_piece (q := Q) (cap := c9) (g := g9) (off := o9) (d := chS E first TN) (by rw [HCL.out, HTL.out]; exact (HV9.out.next i.below).by') (by rw [HCL.out, HTL.out]; have := HQB.out; have := HBB.out; omega) d9
      rw [HBB.out] at h1 h2
      have h3 := HSD.out _ _ _ _ _ h1 h2
      rw [F2d.out] at h3
      exact h3
    have hB16 : IntKind.i64.wrap ((B : Int) + 16) = ((B + 16 : Nat) : Int) := by rw [IntKind.wrap_i64]; have := HQB.out; omega
    have hB32 : IntKind.i64.wrap ((B : Int) + 32) = ((B + 32 : Nat) : Int) := by rw [IntKind.wrap_i64]; have := HQB.out; omega
    have hb1 : (B : Int) ≤ (c8 : Int) := by have := HQB.out; omega
    have hb2 : (B : Int) ≤ (c9 : Int) := by have := HQB.out; omega
    have hb3 : ((B + 16 : Nat) : Int) ≤ (c8 : Int) := by have := HQB.out; omega
    have hb4 : ((B + 16 : Nat) : Int) ≤ (c9 : Int) := by have := HQB.out; omega
    have hb5 : (B : Int) ≤ ((B + 16 : Nat) : Int) := by omega
    have hn8 : ¬ c8 = B := by have := HQB.out; omega
    have hn9 : ¬ c9 = B := by have := HQB.out; omega
    have hdn : B + 16 - B = 16 := by omega
    generalize hI16 : B + 16 = B16 at *
    have HI16 := hidD hI16
    clear hI16
    refine wp_region_below (by kernel_rfl) (by kernel_rfl) ?_
    iterate 27 (go_big_quiet_step (fail))
    go_big_quiet_step ((go_at_call 13; exact Calls.below_of (HQ1.out _)))
    iterate 13 (go_big_quiet_step (fail))
    go_big_quiet_step ((go_at_call 13; exact Calls.below_of (HQ2.out _ _ _)))
    iterate 4 (go_big_quiet_step (fail))
    refine wpQuiet_nil ?_
    intro i
    go_wp2_with fail
    have HBV : Hid (Below w.heap.size w i.v) := Below.next HB9.out i.below
    have HUV := hidD (HU9.out.next i.below)
    have HVV := hidD (HV9.out.next i.below)
    generalize i.v = wv at *
    by_cases hlast : B + 32 ≤ PL
    · have hla : ¬ (PL : Int) < ((B + 32 : Nat) : Int) := by omega
      have hlad : decide ((PL : Int) < ((B + 32 : Nat) : Int)) = false := by simpa using hla
      have HQ3 : Hid (∀ (i : BW wv) (d8 d9 : Nat), Calls Try.prog 13 #[.slice (some ⟨g8, o8 + B16, none⟩) 16 d8, .slice (some ⟨g9, o9 + B16, none⟩) 16 d9] i.v fun e w' => e = .returned (.bool MZ) ∧ Below i.v.heap.size i.v w') := fun i d8 d9 => by
        have h1 := by_piece (q := Q + 1) (cap := c8) (g := g8) (off := o8) (d := chS E first PD) (by rw [HCL.out, HLL.out]; exact (HUV.out.next i.below).by') (by rw [HCL.out, HLL.out]; have := HBB.out; omega) d8
        have h2 := by_piece (q := Q + 1) (cap := c9) (g := g9) (off := o9) (d := chS E first TN) (by rw [HCL.out, HTL.out]; exact (HVV.out.next i.below).by') (by rw [HCL.out, HTL.out]; have := HBB.out; omega) d9
        rw [show 16 * (Q + 1) = B16 by have := HBB.out; have := HI16.out; omega] at h1 h2
        have h3 := HSD.out _ _ _ _ _ h1 h2
        rw [F3d.out hlast] at h3
        exact h3
      have hb6 : ((B + 32 : Nat) : Int) ≤ (c8 : Int) := by omega
      have hb7 : ((B + 32 : Nat) : Int) ≤ (c9 : Int) := by omega
      have hb8 : (B16 : Int) ≤ ((B + 32 : Nat) : Int) := by have := HI16.out; omega
      have hm8 : ¬ c8 = B16 := by have := HI16.out; omega
      have hm9 : ¬ c9 = B16 := by have := HI16.out; omega
      have hdm : B + 32 - B16 = 16 := by have := HI16.out; omega
      generalize hI32 : B + 32 = B32 at *
      clear hI32 hlast
      refine wp_region_below (by kernel_rfl) (by kernel_rfl) ?_
      iterate 18 (go_big_quiet_step (fail))
      go_big_quiet_step ((go_at_call 13; exact Calls.below_of (HQ3.out _ _ _)))
      iterate 5 (go_big_quiet_step (fail))
      refine wpQuiet_nil ?_
      intro i
      go_wp2_with fail
      go_ret
      exact ⟨rfl, Below.next HBV.out i.below⟩
    · have hla : (PL : Int) < ((B + 32 : Nat) : Int) := by omega
      generalize hI32 : B + 32 = B32 at *
      clear hI32 hlast
      refine wp_region_below (by kernel_rfl) (by kernel_rfl) ?_
      iterate 24 (go_big_quiet_step (fail))
      refine wpQuiet_nil ?_
      intro i
      go_wp2_with fail
      go_ret
      exact ⟨rfl, Below.next HBV.out i.below⟩
  · have h0d : ¬ (0 : Int) < (DL : Int) := by omega
    have h0e : DL = 0 := by omega
    have hN0 : N = 0 := hNt.2 h0e
    subst hN0
    have hKt1 : (wrap64 (c2.tmod PL + PL)).tmod PL = (K : Int) := by
      rw [tmod_small c2 (by omega) hPl]; exact hKt
    clear hNt h0e h0
    go_enter Try.func8, Try.ntmps8
    go_wp2_with (first
      | (go_at_call 10; refine (HAV.out _).mono ?_; rintro e w1 ⟨rfl, hb1⟩; have HB1 := hidD hb1; clear hb1)
      | (go_at_call 38; refine (HPN.out _ HB1.out).mono ?_; rintro e w2 ⟨p, rfl, ha2, hb2⟩; have HA2 := hidD ha2; have HB2 : Hid (Below w.heap.size w w2) := Below.next HB1.out hb2; clear hb2 ha2)
      | (go_at_call 22; refine (HC1.out _ _ _ HA2.out HB2.out).mono ?_; rintro e w3 ⟨vo, rfl, hx3, hb3⟩; obtain ⟨a3, c3, hv3, hl3, _⟩ := hx3.shape; rw [HNL.out] at hv3 hl3; subst hv3; have HX3 := hidD hx3; have HA3 := hidD (HA2.out.next hb3); have HB3 : Hid (Below w.heap.size w w3) := Below.next HB2.out hb3; clear hb3 hx3 HC1)
      | (go_at_call 22; refine (HC2.out _ _ _ _ HA3.out HB3.out (HTK.out _ HB3.out)).mono ?_; rintro e w4 ⟨vo, rfl, hx4, hb4⟩; obtain ⟨a4, n4, c4, hv4⟩ := sl_shape hx4; subst hv4; have HY4 := hidD hx4; have HX4 := hidD (HX3.out.next hb4); have HA4 := hidD (HA3.out.next hb4); have HB4 : Hid (Below w.heap.size w w4) := Below.next HB3.out hb4; clear hb4 hx4 HC2)
      | (go_at_call 13; refine (HSM.out _ _ _ _ (HXK.out _ _ _ HX4.out) HY4.out.by').mono ?_; rintro e wz ⟨rfl, hwz⟩; subst hwz; clear HY4)
      | (go_at_call 32; refine (HPD.out _ HB4.out).mono ?_; rintro e w5 ⟨vo, rfl, hx5, hb5⟩; obtain ⟨a5, c5, hv5, hl5, _⟩ := hx5.shape; rw [HLL.out] at hv5 hl5; subst hv5; have HP5 := hidD hx5; have HA5 := hidD (HA4.out.next hb5); have HB5 : Hid (Below w.heap.size w w5) := Below.next HB4.out hb5; clear hb5 hx5 HPD)
      | (go_at_call 15; refine (HOW.out _ _ HP5.out).mono ?_; rintro e w6 ⟨vo, rfl, hx6, hb6⟩; obtain ⟨g6, c6, hv6, hg6, hgl6, _⟩ := row_shapeC hx6 (by omega); subst hv6; have HO6 := hidD hx6; have HP6 := hidD (HP5.out.next hb6); have HA6 := hidD (HA5.out.next hb6); have HB6 : Hid (Below w.heap.size w w6) := Below.next HB5.out hb6; have HG6 := hidD hg6; obtain ⟨hc6, hf6, hs6⟩ := HC6.out _ _ _ _ hx6; have HS6 := hidD hs6; have HX6 : Hid (∀ u, Below w5.heap.size w5 (w6.setCell ⟨g6, K, none⟩ u)) := (fun u => below_setCell hb6 hg6 _ u); clear hb6 hx6 HOW hg6 hgl6 hs6)
      | (go_at_call 24; refine (HC3.out PD _ _ _ _ HLL.out (HA5.out.next (HX6.out _)) (Below.next HB5.out (HX6.out _)) (HP5.out.next (HX6.out _))).mono ?_; rintro e w8 ⟨vo, rfl, hx8, hb8⟩; obtain ⟨a8, c8, hv8, hl8, _⟩ := hx8.shape; rw [HCL.out, HLL.out] at hv8 hl8; subst hv8; have HU8 := hidD hx8; have HO8 := hidD (sl_ownD (row_below HS6.out hb8)); have HA8 := hidD ((HA5.out.next (HX6.out (.int .u8 Z))).next hb8); have HB8 : Hid (Below w.heap.size w w8) := Below.next (Below.next HB5.out (HX6.out (.int .u8 Z))) hb8; clear hb8 hx8 HA5 HP5)
      | (go_at_call 24; refine (HC3.out TN _ _ _ _ HTL.out HA8.out HB8.out HO8.out).mono ?_; rintro e w9 ⟨vo, rfl, hx9, hb9⟩; obtain ⟨a9, c9, hv9, hl9, _⟩ := hx9.shape; rw [HCL.out, HTL.out] at hv9 hl9; subst hv9; have HV9 := hidD hx9; have HU9 := hidD (HU8.out.next hb9); have HB9 : Hid (Below w.heap.size w w9) := Below.next HB8.out hb9; clear hb9 hx9))
    have HSU : Hid (∃ g o, a8 = some ⟨g, o, none⟩) := by
      obtain ⟨a', c', he, hsh⟩ := HU9.out.by'.shape
      rw [HCL.out, HLL.out] at he
      cases he
      obtain ⟨g, o, h1, _⟩ := hsh 0 (by rw [HCL.out, HLL.out]; omega)
      exact ⟨g, o, h1⟩
    have HSV : Hid (∃ g o, a9 = some ⟨g, o, none⟩) := by
      obtain ⟨a', c', he, hsh⟩ := HV9.out.by'.shape
      rw [HCL.out, HTL.out] at he
      cases he
      obtain ⟨g, o, h1, _⟩ := hsh 0 (by rw [HCL.out, HTL.out]; omega)
      exact ⟨g, o, h1⟩
    obtain ⟨g8, o8, h8e⟩ := HSU.out
    subst h8e
    obtain ⟨g9, o9, h9e⟩ := HSV.out
    subst h9e
    have HQ1 : Hid (∀ i : BW w9, Calls Try.prog 13 #[.slice (some ⟨g8, o8, none⟩) B c8, .slice (some ⟨g9, o9, none⟩) B c9] i.v fun e w' => e = .returned (.bool true) ∧ Below i.v.heap.size i.v w') := fun i => by
      have h1 : ByAt i.v (.slice (some ⟨g8, o8, none⟩) B c8) ((chS E first PD).take B) := (sl_take (by rw [HCL.out, HLL.out]; exact HU9.out.next i.below) (by rw [HCL.out, HLL.out]; have := HQB.out; omega)).by'
      have h2 : ByAt i.v (.slice (some ⟨g9, o9, none⟩) B c9) ((chS E first PD).take B) := by
        rw [F1.out]
        exact (sl_take (by rw [HCL.out, HTL.out]; exact HV9.out.next i.below) (by rw [HCL.out, HTL.out]; have := HQB.out; omega)).by'
      have h3 := HSD.out _ _ _ _ _ h1 h2
      rw [decide_eq_true rfl] at h3
      exact h3
    have HQ2 : Hid (∀ (i : BW w9) (d8 d9 : Nat), Calls Try.prog 13 #[.slice (some ⟨g8, o8 + B, none⟩) 16 d8, .slice (some ⟨g9, o9 + B, none⟩) 16 d9] i.v fun e w' => e = .returned (.bool MZ) ∧ Below i.v.heap.size i.v w') := fun i d8 d9 => by
      have h1 := by_piece (q := Q) (cap := c8) (g := g8) (off := o8) (d := chS E first PD) (by rw [HCL.out, HLL.out]; exact (HU9.out.next i.below).by') (by rw [HCL.out, HLL.out]; have := HQB.out; have := HBB.out; omega) d8
      have h2 := by_piece (q := Q) (cap := c9) (g := g9) (off := o9) (d := chS E first TN) (by rw [HCL.out, HTL.out]; exact (HV9.out.next i.below).by') (by rw [HCL.out, HTL.out]; have := HQB.out; have := HBB.out; omega) d9
      rw [HBB.out] at h1 h2
      have h3 := HSD.out _ _ _ _ _ h1 h2
      rw [F2d.out] at h3
      exact h3
    have hB16 : IntKind.i64.wrap ((B : Int) + 16) = ((B + 16 : Nat) : Int) := by rw [IntKind.wrap_i64]; have := HQB.out; omega
    have hB32 : IntKind.i64.wrap ((B : Int) + 32) = ((B + 32 : Nat) : Int) := by rw [IntKind.wrap_i64]; have := HQB.out; omega
    have hb1 : (B : Int) ≤ (c8 : Int) := by have := HQB.out; omega
    have hb2 : (B : Int) ≤ (c9 : Int) := by have := HQB.out; omega
    have hb3 : ((B + 16 : Nat) : Int) ≤ (c8 : Int) := by have := HQB.out; omega
    have hb4 : ((B + 16 : Nat) : Int) ≤ (c9 : Int) := by have := HQB.out; omega
    have hb5 : (B : Int) ≤ ((B + 16 : Nat) : Int) := by omega
    have hn8 : ¬ c8 = B := by have := HQB.out; omega
    have hn9 : ¬ c9 = B := by have := HQB.out; omega
    have hdn : B + 16 - B = 16 := by omega
    generalize hI16 : B + 16 = B16 at *
    have HI16 := hidD hI16
    clear hI16
    refine wp_region_below (by kernel_rfl) (by kernel_rfl) ?_
    iterate 27 (go_big_quiet_step (fail))
    go_big_quiet_step ((go_at_call 13; exact Calls.below_of (HQ1.out _)))
    iterate 13 (go_big_quiet_step (fail))
    go_big_quiet_step ((go_at_call 13; exact Calls.below_of (HQ2.out _ _ _)))
    iterate 4 (go_big_quiet_step (fail))
    refine wpQuiet_nil ?_
    intro i
    go_wp2_with fail
    have HBV : Hid (Below w.heap.size w i.v) := Below.next HB9.out i.below
    have HUV := hidD (HU9.out.next i.below)
    have HVV := hidD (HV9.out.next i.below)
    generalize i.v = wv at *
    by_cases hlast : B + 32 ≤ PL
    · have hla : ¬ (PL : Int) < ((B + 32 : Nat) : Int) := by omega
      have hlad : decide ((PL : Int) < ((B + 32 : Nat) : Int)) = false := by simpa using hla
      have HQ3 : Hid (∀ (i : BW wv) (d8 d9 : Nat), Calls Try.prog 13 #[.slice (some ⟨g8, o8 + B16, none⟩) 16 d8, .slice (some ⟨g9, o9 + B16, none⟩) 16 d9] i.v fun e w' => e = .returned (.bool MZ) ∧ Below i.v.heap.size i.v w') := fun i d8 d9 => by
        have h1 := by_piece (q := Q + 1) (cap := c8) (g := g8) (off := o8) (d := chS E first PD) (by rw [HCL.out, HLL.out]; exact (HUV.out.next i.below).by') (by rw [HCL.out, HLL.out]; have := HBB.out; omega) d8
        have h2 := by_piece (q := Q + 1) (cap := c9) (g := g9) (off := o9) (d := chS E first TN) (by rw [HCL.out, HTL.out]; exact (HVV.out.next i.below).by') (by rw [HCL.out, HTL.out]; have := HBB.out; omega) d9
        rw [show 16 * (Q + 1) = B16 by have := HBB.out; have := HI16.out; omega] at h1 h2
        have h3 := HSD.out _ _ _ _ _ h1 h2
        rw [F3d.out hlast] at h3
        exact h3
      have hb6 : ((B + 32 : Nat) : Int) ≤ (c8 : Int) := by omega
      have hb7 : ((B + 32 : Nat) : Int) ≤ (c9 : Int) := by omega
      have hb8 : (B16 : Int) ≤ ((B + 32 : Nat) : Int) := by have := HI16.out; omega
      have hm8 : ¬ c8 = B16 := by have := HI16.out; omega
      have hm9 : ¬ c9 = B16 := by have := HI16.out; omega
      have hdm : B + 32 - B16 = 16 := by have := HI16.out; omega
      generalize hI32 : B + 32 = B32 at *
      clear hI32 hlast
      refine wp_region_below (by kernel_rfl) (by kernel_rfl) ?_
      iterate 18 (go_big_quiet_step (fail))
      go_big_quiet_step ((go_at_call 13; exact Calls.below_of (HQ3.out _ _ _)))
      iterate 5 (go_big_quiet_step (fail))
      refine wpQuiet_nil ?_
      intro i
      go_wp2_with fail
      go_ret
      exact ⟨rfl, Below.next HBV.out i.below⟩
    · have hla : (PL : Int) < ((B + 32 : Nat) : Int) := by omega
      generalize hI32 : B + 32 = B32 at *
      clear hI32 hlast
      refine wp_region_below (by kernel_rfl) (by kernel_rfl) ?_
      iterate 24 (go_big_quiet_step (fail))
      refine wpQuiet_nil ?_
      intro i
      go_wp2_with fail
      go_ret
      exact ⟨rfl, Below.next HBV.out i.below⟩
theorem aesPieces_any (l s d : List UInt8) (hd : d.length ≤ 140737488355100) (c1 c2 : Int) (m : UInt8) (v x u : Value) (w : World) (hv : SlAt w v l) (hx : SlAt w x s) (hu : SlAt w u d) : Calls Try.prog 8 #[v, x, u, .int .i64 c1, .int .i64 c2, .int .u8 (m.toNat : Int)] w fun e w' => e = .returned (.bool true) ∧ Below w.heap.size w w' := by
  by_cases hk : l.length = 16 ∨ l.length = 24 ∨ l.length = 32
  · obtain ⟨n, hn, hn4⟩ : ∃ n, (n = 4 ∨ n = 6 ∨ n = 8) ∧ l.length = 4 * n := ⟨l.length / 4, by omega, by omega⟩
    by_cases hs : s.length = 16
    · exact pieces_any l s d n hn hn4 hs hd c1 c2 m v x u w hv hx hu
    · exact pieces_short l s n hn hn4 hs c1 c2 m v x u w hv hx
  · exact pieces_no l (by omega) (by omega) (by omega) c1 c2 m v x u w hv.by'
end Go.Proofs.Ytgefampdfhbmbaa
