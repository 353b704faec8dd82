/- What behind and newKeyed of sha answer. -/
import Derived.Test.YtnldpofljeodiaaZap
import Derived.Test.YtnldpofljeodiaaShm
import Derived.Deep.Cut
namespace Go.Proofs.Ytnldpofljeodiaa
open Go.RowKit
set_option linter.unusedVariables false

set_option maxRecDepth 100000 in
theorem behind_any (k : Nat) (hk : Kind k) (g : Nat) (s : Ps) (hn : s.n < 18446744073709551616) (hcl : ∀ j, s.c j < mdK k) (L : List UInt8) (hL : L.length ≤ 4611686018427387904) (a : Option Addr) (cap : Nat) (w : World) (hs : StAt w g k s) (hb : ByAt w (.slice a L.length cap) L) : Calls Try.prog 57 #[.pointer (some ⟨g, 0, none⟩), .slice a L.length cap] w fun e w' => ∃ g', e = .returned (.pointer (some ⟨g', 0, none⟩)) ∧ w.heap.size ≤ g' ∧ StAt w' g' k (feedP k s L) ∧ Below w.heap.size w w' := by
  have HCL : Hid (∀ w, StAt w g k s → Calls Try.prog 32 #[.pointer (some ⟨g, 0, none⟩)] w fun e w' => ∃ g', e = .returned (.pointer (some ⟨g', 0, none⟩)) ∧ w.heap.size ≤ g' ∧ StAt w' g' k s ∧ Below w.heap.size w w') := fun w h => clone_any k g s w h
  have HWR : Hid (∀ (g : Nat) (wA : World), w.heap.size ≤ g → Below w.heap.size w wA → StAt wA g k s → Calls Try.prog 26 #[.pointer (some ⟨g, 0, none⟩), .slice a L.length cap] wA fun e w' => e = .returned (.int .i64 (L.length : Int)) ∧ StAt w' g k (feedP k s L) ∧ But g wA w') := fun g wA hg hA hs => write_any k hk g s hn hcl L hL a cap wA hs (hb.next hA) (by_off hb hg)
  have HS := hidD hs
  clear hs hb hcl
  generalize L.length = LL at *
  go_enter Try.func57, Try.ntmps57
  go_wp2_with fail
  go_at_call 32
  refine (HCL.out _ HS.out).mono ?_
  rintro e w1 ⟨g1, rfl, hg1, hs1, hb1⟩
  have HB1 := hidD hb1
  have HG1 := hidD hg1
  have W1 := hidD (HWR.out g1 w1 hg1 hb1 hs1)
  clear hs1 hb1 hg1 HWR HCL
  go_wp2_with fail
  go_at_call 26
  refine W1.out.mono ?_
  rintro e w2 ⟨rfl, hs2, hb2⟩
  have HF : Hid (w.heap.size ≤ g1 ∧ StAt w2 g1 k (feedP k s L) ∧ Below w.heap.size w w2) := ⟨HG1.out, hs2, HB1.out.trans (hb2.bel.mono HG1.out)⟩
  clear hs2 hb2 W1
  go_wp2_with fail
  go_ret
  exact ⟨g1, rfl, HF.out⟩
/- the key as it is taken; masked; the two states of a code -/
def padK (k : Nat) (L : List UInt8) : List UInt8 := if blkN k < L.length then dgL k (feedP k (newP k) L) else L
def kmL (k : Nat) (L : List UInt8) (m : UInt8) : List UInt8 := (List.range (blkN k)).map fun i => (padK k L).getD i 0 ^^^ m
theorem kmL_len (k : Nat) (L : List UInt8) (m : UInt8) : (kmL k L m).length = blkN k := by simp [kmL]
def keyP (k : Nat) (L : List UInt8) (m : UInt8) : Ps := feedP k (newP k) (kmL k L m)
theorem padK_le (k : Nat) (hk : Kind k) (L : List UInt8) : (padK k L).length ≤ blkN k := by
  unfold padK
  by_cases h : blkN k < L.length
  · rw [if_pos h, dgL_len]
    unfold blkN
    rcases hk with rfl | rfl | rfl | rfl <;> decide
  · rw [if_neg h]; omega
theorem Try.zero75z : (Try.prog.info? 63).map (fun i => (i.zero, i.size)) = some (some (.agg #[.pointer none, .pointer none]), 2) := by kernel_rfl
theorem res_pair {fn : Func} {p u : Tmp} {ty : TypeId} (h : fn.results = #[.cell p ty, .tmp u]) (tmps : Array Value) (w : World) (g : Nat) (cs : Array Value) {fs} (hp : tmps.getD p undef = .pointer (some ⟨g, 0, none⟩)) (hg : w.heap[g]? = some (.cells cs ty (0, 0))) (hu : Try.prog.underlying ty = some (.struct fs)) (hi : (Try.prog.info? ty).map (·.size) = some cs.size) : (results fn tmps).run Try.prog w = .ok (.tuple #[.agg cs, tmps.getD u undef]) w := by
  rw [results_cell_tmp h, hp]
  rw [show (asAddr (.pointer (some ⟨g, 0, none⟩))).run Try.prog w = .ok ⟨g, 0, none⟩ w from rfl]
  rw [Result.andThen_ok, run_loadVar_row _ g ty ty cs (0, 0) _ hg hu rfl hi]
  rfl
theorem but_below {g : Nat} {a b : World} (h : But g a b) (hg : a.heap.size ≤ g) : Below a.heap.size a b := h.bel.mono hg
set_option maxRecDepth 100000 in
set_option maxHeartbeats 1600000 in
theorem newKeyedS (k : Nat) (hk : Kind k) (L : List UInt8) (hL : L.length ≤ 4611686018427387904) (hlong : ¬ blkN k < L.length) (a : Option Addr) (cap : Nat) (w : World) (hb : ByAt w (.slice a L.length cap) L) : Calls Try.prog 33 #[.int .i64 (k : Int), .slice a L.length cap] w fun e w' => ∃ g1 g2, e = .returned (.tuple #[.agg #[.pointer (some ⟨g1, 0, none⟩), .pointer (some ⟨g2, 0, none⟩)], .int .i64 0]) ∧ w.heap.size ≤ g1 ∧ w.heap.size ≤ g2 ∧ g1 ≠ g2 ∧ StAt w' g1 k (keyP k L 54) ∧ StAt w' g2 k (keyP k L 92) ∧ Below w.heap.size w w' := by
  have HBG : Hid (∀ w, Calls Try.prog 30 #[.int .i64 (k : Int)] w fun e w' => ∃ g, e = .returned (.tuple #[.pointer (some ⟨g, 0, none⟩), .int .i64 0]) ∧ w.heap.size ≤ g ∧ StAt w' g k (newP k) ∧ Below w.heap.size w w') := fun w => begin_any k hk w
  have HSZ : Hid (∀ w, Calls Try.prog 36 #[.int .i64 (k : Int)] w fun e w' => e = .returned (.tuple #[.int .i64 ((k / 8 : Nat) : Int), .int .i64 (blkN k : Int), .int .i64 0]) ∧ w' = w) := fun w => size_any k hk w
  have HBH : Hid (∀ (M : List UInt8) (a : Option Addr) (cap : Nat) (g : Nat) (w : World), M.length ≤ 4611686018427387904 → StAt w g k (newP k) → ByAt w (.slice a M.length cap) M → Calls Try.prog 57 #[.pointer (some ⟨g, 0, none⟩), .slice a M.length cap] w fun e w' => ∃ g', e = .returned (.pointer (some ⟨g', 0, none⟩)) ∧ w.heap.size ≤ g' ∧ StAt w' g' k (feedP k (newP k) M) ∧ Below w.heap.size w w') := fun M a cap g w hM hs hb => behind_any k hk g _ (show 0 < 18446744073709551616 by decide) (newP_lt k hk) M hM a cap w hs hb
  have HSM : Hid (∀ (g : Nat) (w : World), StAt w g k (feedP k (newP k) L) → Calls Try.prog 28 #[.pointer (some ⟨g, 0, none⟩)] w fun e w' => ∃ g', e = .returned (.slice (some ⟨g', 0, none⟩) (k / 8) (k / 8)) ∧ w.heap.size ≤ g' ∧ RowZ w' g' .u8 (k / 8) 5 (fun i => ((dgP k (feedP k (newP k) L) i).toNat : Int)) ∧ Below w.heap.size w w') := fun g w h => stSum_any k hk g _ (feed_nlt k _ (show 0 < 18446744073709551616 by decide) L) (feed_lt2 k hk L) w h
  obtain ⟨hbp1, hbp2⟩ := blk_pos k
  have hkl := padK_le k hk L
  have HMK : Hid (∀ (m : UInt8) (g0 : Nat) (w : World), RowZ w g0 .u8 (blkN k) 5 (fun i => (((padK k L).getD i 0).toNat : Int)) → Calls Try.prog 58 #[.slice (some ⟨g0, 0, none⟩) (blkN k) (blkN k), .int .u8 (m.toNat : Int)] w fun e w' => ∃ g, e = .returned (.slice (some ⟨g, 0, none⟩) (kmL k L m).length (kmL k L m).length) ∧ ByAt w' (.slice (some ⟨g, 0, none⟩) (kmL k L m).length (kmL k L m).length) (kmL k L m) ∧ Below w.heap.size w w') := fun m g0 w h => by
    refine (masked_any (fun i => (padK k L).getD i 0) m g0 0 (blkN k) (blkN k) (by omega) w h.lt (fun q hq => by rw [Nat.zero_add]; exact h.cell hq)).mono fun e w' ⟨g, h1, h2, h3, h4⟩ => ⟨g, by rw [kmL_len]; exact h1, ?_, h4⟩
    have := rowZ_by h3
    rw [List.length_map, List.length_range] at this
    rw [kmL_len]; exact this
  have HB1 : Hid (∀ (g g0 : Nat) (w : World), StAt w g k (newP k) → ByAt w (.slice (some ⟨g0, 0, none⟩) (kmL k L 54).length (kmL k L 54).length) (kmL k L 54) → Calls Try.prog 57 #[.pointer (some ⟨g, 0, none⟩), .slice (some ⟨g0, 0, none⟩) (kmL k L 54).length (kmL k L 54).length] w fun e w' => ∃ g', e = .returned (.pointer (some ⟨g', 0, none⟩)) ∧ w.heap.size ≤ g' ∧ StAt w' g' k (keyP k L 54) ∧ Below w.heap.size w w') := fun g g0 w hs hb => HBH.out (kmL k L 54) _ _ g w (by rw [kmL_len]; omega) hs hb
  have HB2 : Hid (∀ (g g0 : Nat) (w : World), StAt w g k (newP k) → ByAt w (.slice (some ⟨g0, 0, none⟩) (kmL k L 92).length (kmL k L 92).length) (kmL k L 92) → Calls Try.prog 57 #[.pointer (some ⟨g, 0, none⟩), .slice (some ⟨g0, 0, none⟩) (kmL k L 92).length (kmL k L 92).length] w fun e w' => ∃ g', e = .returned (.pointer (some ⟨g', 0, none⟩)) ∧ w.heap.size ≤ g' ∧ StAt w' g' k (keyP k L 92) ∧ Below w.heap.size w w') := fun g g0 w hs hb => HBH.out (kmL k L 92) _ _ g w (by rw [kmL_len]; omega) hs hb
  have HBL := hidD (fun g w h1 h2 => HBH.out L a cap g w hL h1 h2)
  have HPK : Hid (padK k L = L) := by show _ = _; unfold padK; rw [if_neg hlong]
  have HDL : Hid ((dgL k (feedP k (newP k) L)).length = k / 8) := dgL_len _ _
  have HM1 : Hid (∀ (g0 : Nat) (w : World), RowZ w g0 .u8 (blkN k) 5 (fun i => (((padK k L).getD i 0).toNat : Int)) → Calls Try.prog 58 #[.slice (some ⟨g0, 0, none⟩) (blkN k) (blkN k), .int .u8 54] w fun e w' => ∃ g, e = .returned (.slice (some ⟨g, 0, none⟩) (kmL k L 54).length (kmL k L 54).length) ∧ ByAt w' (.slice (some ⟨g, 0, none⟩) (kmL k L 54).length (kmL k L 54).length) (kmL k L 54) ∧ Below w.heap.size w w') := fun g0 w h => HMK.out 54 g0 w h
  have HM2 : Hid (∀ (g0 : Nat) (w : World), RowZ w g0 .u8 (blkN k) 5 (fun i => (((padK k L).getD i 0).toNat : Int)) → Calls Try.prog 58 #[.slice (some ⟨g0, 0, none⟩) (blkN k) (blkN k), .int .u8 92] w fun e w' => ∃ g, e = .returned (.slice (some ⟨g, 0, none⟩) (kmL k L 92).length (kmL k L 92).length) ∧ ByAt w' (.slice (some ⟨g, 0, none⟩) (kmL k L 92).length (kmL k L 92).length) (kmL k L 92) ∧ Below w.heap.size w w') := fun g0 w h => HMK.out 92 g0 w h
  obtain ⟨hz, hsz⟩ := zero_of_info Try.zero75z
  have HI : Hid ((Try.prog.info? 63).map (·.size) = some 2) := hsz
  have hi5 : (Try.prog.info? 5).map (·.size) = some 1 := by obtain ⟨i0, hi, _, h1, _⟩ := info_parts Try.info5; rw [hi]; simp [h1]
  have HR0 : Hid ((w.alloc (.cells #[.pointer none, .pointer none] (63 : TypeId))).heap[w.heap.size]? = some (.cells #[.pointer none, .pointer none] (63 : TypeId) (0, 0))) := heap_alloc_last _ _
  have HA0 : Hid (Below w.heap.size w (w.alloc (.cells #[.pointer none, .pointer none] (63 : TypeId)))) := (Below.refl _ _).alloc (Nat.le_refl _) _
  have HBY := hidD hb
  have hlong2 : ¬ (blkN k : Int) < (L.length : Int) := by omega
  clear hsz hb HBH HMK
  generalize hM54 : kmL k L 54 = M54 at *
  generalize hM92 : kmL k L 92 = M92 at *
  clear hM54 hM92
  generalize hPK : padK k L = PK at *
  clear hPK
  generalize hP1 : keyP k L 54 = P1 at *
  generalize hP2 : keyP k L 92 = P2 at *
  clear hP1 hP2
  generalize hDD : feedP k (newP k) L = DD at *
  clear hDD
  generalize hBK : blkN k = BK at *
  clear hBK
  generalize hLL : L.length = LL at *
  have HLL := hidD hLL
  clear hLL hlong
  generalize hK8 : k / 8 = K8 at *
  have HK8 := hidD hK8
  clear hK8
  generalize M54.length = N54 at *
  generalize M92.length = N92 at *
  go_enter Try.func33, Try.ntmps33
  go_wp2_with fail
  go_at_call 30
  refine (HBG.out _).mono ?_
  rintro e w1 ⟨gB, rfl, hgB, hsB, hx1⟩
  have R1 := hidD ((hx1.block _ (row_lt HR0.out)).trans HR0.out)
  have B1 := hidD (Below.next HA0.out hx1)
  have S1 := hidD hsB
  have Y1 := hidD (HBY.out.next (Below.next HA0.out hx1))
  clear hgB hsB hx1 HR0 HA0 HBG HBY
  go_upto_region 7 with (go_at_call 36; refine (HSZ.out _).mono ?_; rintro e wx ⟨rfl, hx⟩; subst wx)
  have R3 := R1
  have B3 := B1
  have S3 := S1
  have Y3 : Hid (ByAt w1 (.slice a LL cap) PK) := by show ByAt _ _ _; rw [HPK.out]; exact Y1.out
  have N3 : Hid (PK.length = LL) := by show _ = _; rw [HPK.out]; exact HLL.out
  clear R1 B1 S1 Y1
  go_upto_region 8 with (at_make; refine wpList_makeB w1 rfl _ _ rfl .i64 .i64 (BK : Int) (BK : Int) BK rfl rfl rfl rfl (by omega) ?_; intro w4 hr4 hx4)
  have M4 := hidD hr4.out
  have R4 := hidD ((hx4.block _ (row_lt R3.out)).trans R3.out)
  have B4 := hidD (Below.next B3.out hx4)
  have S4 := hidD (S3.out.next hx4)
  have hpkl : LL ≤ BK := by rw [← N3.out]; exact hkl
  have SRC : Hid (0 < LL → ∃ g' o', a = some ⟨g', o', none⟩ ∧ ∀ j, j < LL → w4.cell? ⟨g', o' + j, none⟩ = some (.int .u8 ((PK.getD j 0).toNat : Int))) := by
    intro h0
    have hY := Y3.out.next hx4
    rw [← N3.out] at hY h0
    obtain ⟨g', o', e1, e2, e3⟩ := hY.src h0
    exact ⟨g', o', e1, fun j hj => e3 j (by rw [N3.out]; exact hj)⟩
  have GM : Hid (w.heap.size < w1.heap.size ∧ gB < w1.heap.size) := ⟨row_lt R3.out, S3.out.lt⟩
  clear hr4 hx4 R3 B3 S3 Y3
  generalize hgM : w1.heap.size = gM at *
  clear hgM
  go_upto_region 9 with (refine wpList_copy_Z rfl _ _ 22 22 rfl 5 Try.underlying22 hi5 (some ⟨gM, 0, none⟩) a BK BK LL cap rfl rfl .u8 gM 0 BK LL (fun _ => 0) (fun i => ((PK.getD i 0).toNat : Int)) 5 M4.out (by show LL = min LL BK; omega) (fun h0 => ⟨rfl, SRC.out h0⟩) (by omega) ?_; intro w5 hr5 hx5)
  have M5 : Hid (RowZ w5 gM .u8 BK 5 (fun i => ((PK.getD i 0).toNat : Int))) := hr5.out.congr fun i _ => by
    by_cases h : i < LL
    · rw [if_pos ⟨Nat.zero_le _, by omega⟩, Nat.sub_zero]
    · rw [if_neg (by omega), List.getD_eq_getElem?_getD, List.getElem?_eq_none (by rw [N3.out]; omega)]; rfl
  have R5 := hidD ((hx5.rest _ (row_lt R4.out) (by have := GM.out; omega)).trans R4.out)
  have B5 : Hid (Below w.heap.size w w5) := B4.out.trans (hx5.bel.mono (by have := GM.out; omega))
  have S5 := hidD (S4.out.but hx5 (by have := GM.out; omega))
  clear hr5 hx5 M4 R4 B4 S4 SRC
  go_wp2_with fail
  go_at_call 58
  refine (HM1.out gM _ M5.out).mono ?_
  rintro e w6 ⟨gI, rfl, hyI, hx6⟩
  have M6 := hidD (M5.out.next hx6)
  have R6 := hidD ((hx6.block _ (row_lt R5.out)).trans R5.out)
  have B6 := hidD (Below.next B5.out hx6)
  have S6 := hidD (S5.out.next hx6)
  have Y6 := hidD hyI
  clear hyI hx6 M5 R5 B5 S5
  go_wp2_with fail
  go_at_call 57
  refine (HB1.out gB gI _ S6.out Y6.out).mono ?_
  rintro e w7 ⟨g1, rfl, hg1, hs1, hx7⟩
  have M7 := hidD (M6.out.next hx7)
  have R7 := hidD ((hx7.block _ (row_lt R6.out)).trans R6.out)
  have B7 := hidD (Below.next B6.out hx7)
  have S7 := hidD (S6.out.next hx7)
  have P7 := hidD hs1
  have G7 : Hid (w.heap.size ≤ g1 ∧ w.heap.size < g1) := ⟨Nat.le_trans B6.out.size hg1, Nat.lt_of_lt_of_le (row_lt R6.out) hg1⟩
  clear hg1 hs1 hx7 M6 R6 B6 S6 Y6
  go_wp2_with fail
  go_at_call 58
  refine (HM2.out gM _ M7.out).mono ?_
  rintro e w8 ⟨gO, rfl, hyO, hx8⟩
  have R8 := hidD ((hx8.block _ (row_lt R7.out)).trans R7.out)
  have B8 := hidD (Below.next B7.out hx8)
  have S8 := hidD (S7.out.next hx8)
  have P8 := hidD (P7.out.next hx8)
  have Y8 := hidD hyO
  clear hyO hx8 M7 R7 B7 S7 P7
  go_wp2_with fail
  go_at_call 57
  refine (HB2.out gB gO _ S8.out Y8.out).mono ?_
  rintro e w9 ⟨g2, rfl, hg2, hs2, hx9⟩
  have R9 := hidD ((hx9.block _ (row_lt R8.out)).trans R8.out)
  have B9 := hidD (Below.next B8.out hx9)
  have P9 := hidD (P8.out.next hx9)
  have Q9 := hidD hs2
  have G9 : Hid (w.heap.size ≤ g2 ∧ g1 ≠ g2 ∧ w.heap.size < w8.heap.size) := ⟨Nat.le_trans B8.out.size hg2, by have := P8.out.lt; omega, row_lt R8.out⟩
  have GA : Hid (g1 ≠ w.heap.size ∧ g2 ≠ w.heap.size) := ⟨by have := G7.out; omega, by have := row_lt R8.out; omega⟩
  clear hg2 hs2 hx9 R8 B8 S8 P8 Y8
  go_wp2_with (refine wpList_store_row rfl 63 _ _ rfl w.heap.size #[.pointer (some ⟨g1, 0, none⟩), .pointer (some ⟨g2, 0, none⟩)] rfl rfl 63 #[.pointer none, .pointer none] R9.out HI.out rfl (by simp [Value.oneCell']) ?_)
  refine bodyPost_ret (v := .tuple #[.agg #[.pointer (some ⟨g1, 0, none⟩), .pointer (some ⟨g2, 0, none⟩)], .int .i64 0]) ?_ rfl ?_
  · exact res_pair (p := 4) (u := 5) (by kernel_rfl) _ _ w.heap.size _ rfl (setRow_heap _ _ _ _ _ _ R9.out) Try.underlying63 HI.out
  · exact ⟨g1, g2, rfl, G7.out.1, G9.out.1, G9.out.2.1, (setRow_other _ _ _ _ GA.out.1).trans P9.out, (setRow_other _ _ _ _ GA.out.2).trans Q9.out, below_setRow B9.out (Nat.le_refl _) _⟩
set_option maxRecDepth 100000 in
set_option maxHeartbeats 1600000 in
theorem newKeyedL (k : Nat) (hk : Kind k) (L : List UInt8) (hL : L.length ≤ 4611686018427387904) (hlong : blkN k < L.length) (a : Option Addr) (cap : Nat) (w : World) (hb : ByAt w (.slice a L.length cap) L) : Calls Try.prog 33 #[.int .i64 (k : Int), .slice a L.length cap] w fun e w' => ∃ g1 g2, e = .returned (.tuple #[.agg #[.pointer (some ⟨g1, 0, none⟩), .pointer (some ⟨g2, 0, none⟩)], .int .i64 0]) ∧ w.heap.size ≤ g1 ∧ w.heap.size ≤ g2 ∧ g1 ≠ g2 ∧ StAt w' g1 k (keyP k L 54) ∧ StAt w' g2 k (keyP k L 92) ∧ Below w.heap.size w w' := by
  have HBG : Hid (∀ w, Calls Try.prog 30 #[.int .i64 (k : Int)] w fun e w' => ∃ g, e = .returned (.tuple #[.pointer (some ⟨g, 0, none⟩), .int .i64 0]) ∧ w.heap.size ≤ g ∧ StAt w' g k (newP k) ∧ Below w.heap.size w w') := fun w => begin_any k hk w
  have HSZ : Hid (∀ w, Calls Try.prog 36 #[.int .i64 (k : Int)] w fun e w' => e = .returned (.tuple #[.int .i64 ((k / 8 : Nat) : Int), .int .i64 (blkN k : Int), .int .i64 0]) ∧ w' = w) := fun w => size_any k hk w
  have HBH : Hid (∀ (M : List UInt8) (a : Option Addr) (cap : Nat) (g : Nat) (w : World), M.length ≤ 4611686018427387904 → StAt w g k (newP k) → ByAt w (.slice a M.length cap) M → Calls Try.prog 57 #[.pointer (some ⟨g, 0, none⟩), .slice a M.length cap] w fun e w' => ∃ g', e = .returned (.pointer (some ⟨g', 0, none⟩)) ∧ w.heap.size ≤ g' ∧ StAt w' g' k (feedP k (newP k) M) ∧ Below w.heap.size w w') := fun M a cap g w hM hs hb => behind_any k hk g _ (show 0 < 18446744073709551616 by decide) (newP_lt k hk) M hM a cap w hs hb
  have HSM : Hid (∀ (g : Nat) (w : World), StAt w g k (feedP k (newP k) L) → Calls Try.prog 28 #[.pointer (some ⟨g, 0, none⟩)] w fun e w' => ∃ g', e = .returned (.slice (some ⟨g', 0, none⟩) (k / 8) (k / 8)) ∧ w.heap.size ≤ g' ∧ RowZ w' g' .u8 (k / 8) 5 (fun i => ((dgP k (feedP k (newP k) L) i).toNat : Int)) ∧ Below w.heap.size w w') := fun g w h => stSum_any k hk g _ (feed_nlt k _ (show 0 < 18446744073709551616 by decide) L) (feed_lt2 k hk L) w h
  obtain ⟨hbp1, hbp2⟩ := blk_pos k
  have hkl := padK_le k hk L
  have HMK : Hid (∀ (m : UInt8) (g0 : Nat) (w : World), RowZ w g0 .u8 (blkN k) 5 (fun i => (((padK k L).getD i 0).toNat : Int)) → Calls Try.prog 58 #[.slice (some ⟨g0, 0, none⟩) (blkN k) (blkN k), .int .u8 (m.toNat : Int)] w fun e w' => ∃ g, e = .returned (.slice (some ⟨g, 0, none⟩) (kmL k L m).length (kmL k L m).length) ∧ ByAt w' (.slice (some ⟨g, 0, none⟩) (kmL k L m).length (kmL k L m).length) (kmL k L m) ∧ Below w.heap.size w w') := fun m g0 w h => by
    refine (masked_any (fun i => (padK k L).getD i 0) m g0 0 (blkN k) (blkN k) (by omega) w h.lt (fun q hq => by rw [Nat.zero_add]; exact h.cell hq)).mono fun e w' ⟨g, h1, h2, h3, h4⟩ => ⟨g, by rw [kmL_len]; exact h1, ?_, h4⟩
    have := rowZ_by h3
    rw [List.length_map, List.length_range] at this
    rw [kmL_len]; exact this
  have HB1 : Hid (∀ (g g0 : Nat) (w : World), StAt w g k (newP k) → ByAt w (.slice (some ⟨g0, 0, none⟩) (kmL k L 54).length (kmL k L 54).length) (kmL k L 54) → Calls Try.prog 57 #[.pointer (some ⟨g, 0, none⟩), .slice (some ⟨g0, 0, none⟩) (kmL k L 54).length (kmL k L 54).length] w fun e w' => ∃ g', e = .returned (.pointer (some ⟨g', 0, none⟩)) ∧ w.heap.size ≤ g' ∧ StAt w' g' k (keyP k L 54) ∧ Below w.heap.size w w') := fun g g0 w hs hb => HBH.out (kmL k L 54) _ _ g w (by rw [kmL_len]; omega) hs hb
  have HB2 : Hid (∀ (g g0 : Nat) (w : World), StAt w g k (newP k) → ByAt w (.slice (some ⟨g0, 0, none⟩) (kmL k L 92).length (kmL k L 92).length) (kmL k L 92) → Calls Try.prog 57 #[.pointer (some ⟨g, 0, none⟩), .slice (some ⟨g0, 0, none⟩) (kmL k L 92).length (kmL k L 92).length] w fun e w' => ∃ g', e = .returned (.pointer (some ⟨g', 0, none⟩)) ∧ w.heap.size ≤ g' ∧ StAt w' g' k (keyP k L 92) ∧ Below w.heap.size w w') := fun g g0 w hs hb => HBH.out (kmL k L 92) _ _ g w (by rw [kmL_len]; omega) hs hb
  have HBL := hidD (fun g w h1 h2 => HBH.out L a cap g w hL h1 h2)
  have HPK : Hid (padK k L = dgL k (feedP k (newP k) L)) := by show _ = _; unfold padK; rw [if_pos hlong]
  have HDL : Hid ((dgL k (feedP k (newP k) L)).length = k / 8) := dgL_len _ _
  have HM1 : Hid (∀ (g0 : Nat) (w : World), RowZ w g0 .u8 (blkN k) 5 (fun i => (((padK k L).getD i 0).toNat : Int)) → Calls Try.prog 58 #[.slice (some ⟨g0, 0, none⟩) (blkN k) (blkN k), .int .u8 54] w fun e w' => ∃ g, e = .returned (.slice (some ⟨g, 0, none⟩) (kmL k L 54).length (kmL k L 54).length) ∧ ByAt w' (.slice (some ⟨g, 0, none⟩) (kmL k L 54).length (kmL k L 54).length) (kmL k L 54) ∧ Below w.heap.size w w') := fun g0 w h => HMK.out 54 g0 w h
  have HM2 : Hid (∀ (g0 : Nat) (w : World), RowZ w g0 .u8 (blkN k) 5 (fun i => (((padK k L).getD i 0).toNat : Int)) → Calls Try.prog 58 #[.slice (some ⟨g0, 0, none⟩) (blkN k) (blkN k), .int .u8 92] w fun e w' => ∃ g, e = .returned (.slice (some ⟨g, 0, none⟩) (kmL k L 92).length (kmL k L 92).length) ∧ ByAt w' (.slice (some ⟨g, 0, none⟩) (kmL k L 92).length (kmL k L 92).length) (kmL k L 92) ∧ Below w.heap.size w w') := fun g0 w h => HMK.out 92 g0 w h
  obtain ⟨hz, hsz⟩ := zero_of_info Try.zero75z
  have HI : Hid ((Try.prog.info? 63).map (·.size) = some 2) := hsz
  have hi5 : (Try.prog.info? 5).map (·.size) = some 1 := by obtain ⟨i0, hi, _, h1, _⟩ := info_parts Try.info5; rw [hi]; simp [h1]
  have HR0 : Hid ((w.alloc (.cells #[.pointer none, .pointer none] (63 : TypeId))).heap[w.heap.size]? = some (.cells #[.pointer none, .pointer none] (63 : TypeId) (0, 0))) := heap_alloc_last _ _
  have HA0 : Hid (Below w.heap.size w (w.alloc (.cells #[.pointer none, .pointer none] (63 : TypeId)))) := (Below.refl _ _).alloc (Nat.le_refl _) _
  have HBY := hidD hb
  have hlong2 : (blkN k : Int) < (L.length : Int) := by omega
  clear hsz hb HBH HMK
  generalize hM54 : kmL k L 54 = M54 at *
  generalize hM92 : kmL k L 92 = M92 at *
  clear hM54 hM92
  generalize hPK : padK k L = PK at *
  clear hPK
  generalize hP1 : keyP k L 54 = P1 at *
  generalize hP2 : keyP k L 92 = P2 at *
  clear hP1 hP2
  generalize hDD : feedP k (newP k) L = DD at *
  clear hDD
  generalize hBK : blkN k = BK at *
  clear hBK
  generalize hLL : L.length = LL at *
  have HLL := hidD hLL
  clear hLL hlong
  generalize hK8 : k / 8 = K8 at *
  have HK8 := hidD hK8
  clear hK8
  generalize M54.length = N54 at *
  generalize M92.length = N92 at *
  go_enter Try.func33, Try.ntmps33
  go_wp2_with fail
  go_at_call 30
  refine (HBG.out _).mono ?_
  rintro e w1 ⟨gB, rfl, hgB, hsB, hx1⟩
  have R1 := hidD ((hx1.block _ (row_lt HR0.out)).trans HR0.out)
  have B1 := hidD (Below.next HA0.out hx1)
  have S1 := hidD hsB
  have Y1 := hidD (HBY.out.next (Below.next HA0.out hx1))
  clear hgB hsB hx1 HR0 HA0 HBG HBY
  go_wp2_with (go_at_call 36; refine (HSZ.out _).mono ?_; rintro e wx ⟨rfl, hx⟩; subst wx)
  go_at_call 57
  refine (HBL.out gB _ S1.out Y1.out).mono ?_
  rintro e w2 ⟨gL, rfl, hgL, hsL, hx2⟩
  have R2 := hidD ((hx2.block _ (row_lt R1.out)).trans R1.out)
  have B2 := hidD (Below.next B1.out hx2)
  have S2 := hidD (S1.out.next hx2)
  have T2 := hidD hsL
  clear hgL hsL hx2 R1 B1 S1 Y1
  go_wp2_with fail
  go_at_call 28
  refine (HSM.out gL _ T2.out).mono ?_
  rintro e w3 ⟨gD, rfl, hgD, hrD, hx3⟩
  have R3 := hidD ((hx3.block _ (row_lt R2.out)).trans R2.out)
  have B3 := hidD (Below.next B2.out hx3)
  have S3 := hidD (S2.out.next hx3)
  have Y3 : Hid (ByAt w3 (.slice (some ⟨gD, 0, none⟩) K8 K8) PK) := by
    show ByAt _ _ _
    rw [HPK.out]
    have h := rowZ_by hrD
    rw [List.length_map, List.length_range] at h
    unfold dgL
    rw [HK8.out]; exact h
  have N3 : Hid (PK.length = K8) := by show _ = _; rw [HPK.out]; exact HDL.out
  clear hgD hrD hx3 R2 B2 S2 T2
  obtain ⟨aK, haK⟩ : ∃ aK : Option Addr, aK = some ⟨gD, 0, none⟩ := ⟨_, rfl⟩
  rw [← haK] at Y3
  go_upto_region 7 with fail
  rw [← haK]
  clear haK
  obtain ⟨cK, hcK⟩ : ∃ cK : Nat, cK = K8 := ⟨_, rfl⟩
  go_upto_region 8 with (at_make; refine wpList_makeB w3 rfl _ _ rfl .i64 .i64 (BK : Int) (BK : Int) BK rfl rfl rfl rfl (by omega) ?_; intro w4 hr4 hx4)
  have M4 := hidD hr4.out
  have R4 := hidD ((hx4.block _ (row_lt R3.out)).trans R3.out)
  have B4 := hidD (Below.next B3.out hx4)
  have S4 := hidD (S3.out.next hx4)
  have hpkl : K8 ≤ BK := by rw [← N3.out]; exact hkl
  have SRC : Hid (0 < K8 → ∃ g' o', aK = some ⟨g', o', none⟩ ∧ ∀ j, j < K8 → w4.cell? ⟨g', o' + j, none⟩ = some (.int .u8 ((PK.getD j 0).toNat : Int))) := by
    intro h0
    have hY := Y3.out.next hx4
    rw [← N3.out] at hY h0
    obtain ⟨g', o', e1, e2, e3⟩ := hY.src h0
    exact ⟨g', o', e1, fun j hj => e3 j (by rw [N3.out]; exact hj)⟩
  have GM : Hid (w.heap.size < w3.heap.size ∧ gB < w3.heap.size) := ⟨row_lt R3.out, S3.out.lt⟩
  clear hr4 hx4 R3 B3 S3 Y3
  generalize hgM : w3.heap.size = gM at *
  clear hgM
  go_upto_region 9 with (refine wpList_copy_Z rfl _ _ 22 22 rfl 5 Try.underlying22 hi5 (some ⟨gM, 0, none⟩) aK BK BK K8 K8 rfl rfl .u8 gM 0 BK K8 (fun _ => 0) (fun i => ((PK.getD i 0).toNat : Int)) 5 M4.out (by show K8 = min K8 BK; omega) (fun h0 => ⟨rfl, SRC.out h0⟩) (by omega) ?_; intro w5 hr5 hx5)
  have M5 : Hid (RowZ w5 gM .u8 BK 5 (fun i => ((PK.getD i 0).toNat : Int))) := hr5.out.congr fun i _ => by
    by_cases h : i < K8
    · rw [if_pos ⟨Nat.zero_le _, by omega⟩, Nat.sub_zero]
    · rw [if_neg (by omega), List.getD_eq_getElem?_getD, List.getElem?_eq_none (by rw [N3.out]; omega)]; rfl
  have R5 := hidD ((hx5.rest _ (row_lt R4.out) (by have := GM.out; omega)).trans R4.out)
  have B5 : Hid (Below w.heap.size w w5) := B4.out.trans (hx5.bel.mono (by have := GM.out; omega))
  have S5 := hidD (S4.out.but hx5 (by have := GM.out; omega))
  clear hr5 hx5 M4 R4 B4 S4 SRC
  go_wp2_with fail
  go_at_call 58
  refine (HM1.out gM _ M5.out).mono ?_
  rintro e w6 ⟨gI, rfl, hyI, hx6⟩
  have M6 := hidD (M5.out.next hx6)
  have R6 := hidD ((hx6.block _ (row_lt R5.out)).trans R5.out)
  have B6 := hidD (Below.next B5.out hx6)
  have S6 := hidD (S5.out.next hx6)
  have Y6 := hidD hyI
  clear hyI hx6 M5 R5 B5 S5
  go_wp2_with fail
  go_at_call 57
  refine (HB1.out gB gI _ S6.out Y6.out).mono ?_
  rintro e w7 ⟨g1, rfl, hg1, hs1, hx7⟩
  have M7 := hidD (M6.out.next hx7)
  have R7 := hidD ((hx7.block _ (row_lt R6.out)).trans R6.out)
  have B7 := hidD (Below.next B6.out hx7)
  have S7 := hidD (S6.out.next hx7)
  have P7 := hidD hs1
  have G7 : Hid (w.heap.size ≤ g1 ∧ w.heap.size < g1) := ⟨Nat.le_trans B6.out.size hg1, Nat.lt_of_lt_of_le (row_lt R6.out) hg1⟩
  clear hg1 hs1 hx7 M6 R6 B6 S6 Y6
  go_wp2_with fail
  go_at_call 58
  refine (HM2.out gM _ M7.out).mono ?_
  rintro e w8 ⟨gO, rfl, hyO, hx8⟩
  have R8 := hidD ((hx8.block _ (row_lt R7.out)).trans R7.out)
  have B8 := hidD (Below.next B7.out hx8)
  have S8 := hidD (S7.out.next hx8)
  have P8 := hidD (P7.out.next hx8)
  have Y8 := hidD hyO
  clear hyO hx8 M7 R7 B7 S7 P7
  go_wp2_with fail
  go_at_call 57
  refine (HB2.out gB gO _ S8.out Y8.out).mono ?_
  rintro e w9 ⟨g2, rfl, hg2, hs2, hx9⟩
  have R9 := hidD ((hx9.block _ (row_lt R8.out)).trans R8.out)
  have B9 := hidD (Below.next B8.out hx9)
  have P9 := hidD (P8.out.next hx9)
  have Q9 := hidD hs2
  have G9 : Hid (w.heap.size ≤ g2 ∧ g1 ≠ g2 ∧ w.heap.size < w8.heap.size) := ⟨Nat.le_trans B8.out.size hg2, by have := P8.out.lt; omega, row_lt R8.out⟩
  have GA : Hid (g1 ≠ w.heap.size ∧ g2 ≠ w.heap.size) := ⟨by have := G7.out; omega, by have := row_lt R8.out; omega⟩
  clear hg2 hs2 hx9 R8 B8 S8 P8 Y8
  go_wp2_with (refine wpList_store_row rfl 63 _ _ rfl w.heap.size #[.pointer (some ⟨g1, 0, none⟩), .pointer (some ⟨g2, 0, none⟩)] rfl rfl 63 #[.pointer none, .pointer none] R9.out HI.out rfl (by simp [Value.oneCell']) ?_)
  refine bodyPost_ret (v := .tuple #[.agg #[.pointer (some ⟨g1, 0, none⟩), .pointer (some ⟨g2, 0, none⟩)], .int .i64 0]) ?_ rfl ?_
  · exact res_pair (p := 4) (u := 5) (by kernel_rfl) _ _ w.heap.size _ rfl (setRow_heap _ _ _ _ _ _ R9.out) Try.underlying63 HI.out
  · exact ⟨g1, g2, rfl, G7.out.1, G9.out.1, G9.out.2.1, (setRow_other _ _ _ _ GA.out.1).trans P9.out, (setRow_other _ _ _ _ GA.out.2).trans Q9.out, below_setRow B9.out (Nat.le_refl _) _⟩
end Go.Proofs.Ytnldpofljeodiaa
