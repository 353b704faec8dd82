/- Texts of one proof, one behind the other. -/
import Derived.Test.YtnldpofljeodiaaZap
import Derived.Test.YtnldpofljeodiaaShm
import Derived.Deep.Cut
/- What behind and newKeyed of sha answer. -/
namespace Go.Proofs.Ytnldpofljeodiaa
open Go.RowKit
set_option linter.unusedVariables false

set_option maxRecDepth 100000 in
theorem behind_any (k : Nat) (hk : Kind k) (g : Nat) (s : Ps) (hn : s.n < 18446744073709551616) (hcl : ∀ j, s.c j < mdK k) (L : List UInt8) (hL : L.length ≤ 4611686018427387904) (a : Option Addr) (cap : Nat) (w : World) (hs : StAt w g k s) (hb : ByAt w (.slice a L.length cap) L) : Calls Try.prog 57 #[.pointer (some ⟨g, 0, none⟩), .slice a L.length cap] w fun e w' => ∃ g', e = .returned (.pointer (some ⟨g', 0, none⟩)) ∧ w.heap.size ≤ g' ∧ StAt w' g' k (feedP k s L) ∧ Below w.heap.size w w' := by
  have HCL : Hid (∀ w, StAt w g k s → Calls Try.prog 32 #[.pointer (some ⟨g, 0, none⟩)] w fun e w' => ∃ g', e = .returned (.pointer (some ⟨g', 0, none⟩)) ∧ w.heap.size ≤ g' ∧ StAt w' g' k s ∧ Below w.heap.size w w') := fun w h => clone_any k g s w h
  have HWR : Hid (∀ (g : Nat) (wA : World), w.heap.size ≤ g → Below w.heap.size w wA → StAt wA g k s → Calls Try.prog 26 #[.pointer (some ⟨g, 0, none⟩), .slice a L.length cap] wA fun e w' => e = .returned (.int .i64 (L.length : Int)) ∧ StAt w' g k (feedP k s L) ∧ But g wA w') := fun g wA hg hA hs => write_any k hk g s hn hcl L hL a cap wA hs (hb.next hA) (by_off hb hg)
  have HS := hidD hs
  clear hs hb hcl
  generalize L.length = LL at *
  go_enter Try.func57, Try.ntmps57
  go_wp2_with fail
  go_at_call 32
  refine (HCL.out _ HS.out).mono ?_
  rintro e w1 ⟨g1, rfl, hg1, hs1, hb1⟩
  have HB1 := hidD hb1
  have HG1 := hidD hg1
  have W1 := hidD (HWR.out g1 w1 hg1 hb1 hs1)
  clear hs1 hb1 hg1 HWR HCL
  go_wp2_with fail
  go_at_call 26
  refine W1.out.mono ?_
  rintro e w2 ⟨rfl, hs2, hb2⟩
  have HF : Hid (w.heap.size ≤ g1 ∧ StAt w2 g1 k (feedP k s L) ∧ Below w.heap.size w w2) := ⟨HG1.out, hs2, HB1.out.trans (hb2.bel.mono HG1.out)⟩
  clear hs2 hb2 W1
  go_wp2_with fail
  go_ret
  exact ⟨g1, rfl, HF.out⟩
/- the key as it is taken; masked; the two states of a code -/
def padK (k : Nat) (L : List UInt8) : List UInt8 := if blkN k < L.length then dgL k (feedP k (newP k) L) else L
def kmL (k : Nat) (L : List UInt8) (m : UInt8) : List UInt8 := (List.range (blkN k)).map fun i => (padK k L).getD i 0 ^^^ m
theorem kmL_len (k : Nat) (L : List UInt8) (m : UInt8) : (kmL k L m).length = blkN k := by simp [kmL]
def keyP (k : Nat) (L : List UInt8) (m : UInt8) : Ps := feedP k (newP k) (kmL k L m)
theorem padK_le (k : Nat) (hk : Kind k) (L : List UInt8) : (padK k L).length ≤ blkN k := by
  unfold padK
  by_cases h : blkN k < L.length
  · rw [if_pos h, dgL_len]
    unfold blkN
    rcases hk with rfl | rfl | rfl | rfl <;> decide
  · rw [if_neg h]; omega
theorem Try.zero75z : (Try.prog.info? 63).map (fun i => (i.zero, i.size)) = some (some (.agg #[.pointer none, .pointer none]), 2) := by kernel_rfl
theorem res_pair {fn : Func} {p u : Tmp} {ty : TypeId} (h : fn.results = #[.cell p ty, .tmp u]) (tmps : Array Value) (w : World) (g : Nat) (cs : Array Value) {fs} (hp : tmps.getD p undef = .pointer (some ⟨g, 0, none⟩)) (hg : w.heap[g]? = some (.cells cs ty (0, 0))) (hu : Try.prog.underlying ty = some (.struct fs)) (hi : (Try.prog.info? ty).map (·.size) = some cs.size) : (results fn tmps).run Try.prog w = .ok (.tuple #[.agg cs, tmps.getD u undef]) w := by
  rw [results_cell_tmp h, hp]
  rw [show (asAddr (.pointer (some ⟨g, 0, none⟩))).run Try.prog w = .ok ⟨g, 0, none⟩ w from rfl]
  rw [Result.andThen_ok, run_loadVar_row _ g ty ty cs (0, 0) _ hg hu rfl hi]
  rfl
theorem but_below {g : Nat} {a b : World} (h : But g a b) (hg : a.heap.size ≤ g) : Below a.heap.size a b := h.bel.mono hg
set_option maxRecDepth 100000 in
set_option maxHeartbeats 1600000 in
theorem newKeyedS (k : Nat) (hk : Kind k) (L : List UInt8) (hL : L.length ≤ 4611686018427387904) (hlong : ¬ blkN k < L.length) (a : Option Addr) (cap : Nat) (w : World) (hb : ByAt w (.slice a L.length cap) L) : Calls Try.prog 33 #[.int .i64 (k : Int), .slice a L.length cap] w fun e w' => ∃ g1 g2, e = .returned (.tuple #[.agg #[.pointer (some ⟨g1, 0, none⟩), .pointer (some ⟨g2, 0, none⟩)], .int .i64 0]) ∧ w.heap.size ≤ g1 ∧ w.heap.size ≤ g2 ∧ g1 ≠ g2 ∧ StAt w' g1 k (keyP k L 54) ∧ StAt w' g2 k (keyP k L 92) ∧ Below w.heap.size w w' := by
  have HBG : Hid (∀ w, Calls Try.prog 30 #[.int .i64 (k : Int)] w fun e w' => ∃ g, e = .returned (.tuple #[.pointer (some ⟨g, 0, none⟩), .int .i64 0]) ∧ w.heap.size ≤ g ∧ StAt w' g k (newP k) ∧ Below w.heap.size w w') := fun w => begin_any k hk w
  have HSZ : Hid (∀ w, Calls Try.prog 36 #[.int .i64 (k : Int)] w fun e w' => e = .returned (.tuple #[.int .i64 ((k / 8 : Nat) : Int), .int .i64 (blkN k : Int), .int .i64 0]) ∧ w' = w) := fun w => size_any k hk w
  have HBH : Hid (∀ (M : List UInt8) (a : Option Addr) (cap : Nat) (g : Nat) (w : World), M.length ≤ 4611686018427387904 → StAt w g k (newP k) → ByAt w (.slice a M.length cap) M → Calls Try.prog 57 #[.pointer (some ⟨g, 0, none⟩), .slice a M.length cap] w fun e w' => ∃ g', e = .returned (.pointer (some ⟨g', 0, none⟩)) ∧ w.heap.size ≤ g' ∧ StAt w' g' k (feedP k (newP k) M) ∧ Below w.heap.size w w') := fun M a cap g w hM hs hb => behind_any k hk g _ (show 0 < 18446744073709551616 by decide) (newP_lt k hk) M hM a cap w hs hb
  have HSM : Hid (∀ (g : Nat) (w : World), StAt w g k (feedP k (newP k) L) → Calls Try.prog 28 #[.pointer (some ⟨g, 0, none⟩)] w fun e w' => ∃ g', e = .returned (.slice (some ⟨g', 0, none⟩) (k / 8) (k / 8)) ∧ w.heap.size ≤ g' ∧ RowZ w' g' .u8 (k / 8) 5 (fun i => ((dgP k (feedP k (newP k) L) i).toNat : Int)) ∧ Below w.heap.size w w') := fun g w h => stSum_any k hk g _ (feed_nlt k _ (show 0 < 18446744073709551616 by decide) L) (feed_lt2 k hk L) w h
  obtain ⟨hbp1, hbp2⟩ := blk_pos k
  have hkl := padK_le k hk L
  have HMK : Hid (∀ (m : UInt8) (g0 : Nat) (w : World), RowZ w g0 .u8 (blkN k) 5 (fun i => (((padK k L).getD i 0).toNat : Int)) → Calls Try.prog 58 #[.slice (some ⟨g0, 0, none⟩) (blkN k) (blkN k), .int .u8 (m.toNat : Int)] w fun e w' => ∃ g, e = .returned (.slice (some ⟨g, 0, none⟩) (kmL k L m).length (kmL k L m).length) ∧ ByAt w' (.slice (some ⟨g, 0, none⟩) (kmL k L m).length (kmL k L m).length) (kmL k L m) ∧ Below w.heap.size w w') := fun m g0 w h => by
    refine (masked_any (fun i => (padK k L).getD i 0) m g0 0 (blkN k) (blkN k) (by omega) w h.lt (fun q hq => by rw [Nat.zero_add]; exact h.cell hq)).mono fun e w' ⟨g, h1, h2, h3, h4⟩ => ⟨g, by rw [kmL_len]; exact h1, ?_, h4⟩
    have := rowZ_by h3
    rw [List.length_map, List.length_range] at this
    rw [kmL_len]; exact this
  have HB1 : Hid (∀ (g g0 : Nat) (w : World), StAt w g k (newP k) → ByAt w (.slice (some ⟨g0, 0, none⟩) (kmL k L 54).length (kmL k L 54).length) (kmL k L 54) → Calls Try.prog 57 #[.pointer (some ⟨g, 0, none⟩), .slice (some ⟨g0, 0, none⟩) (kmL k L 54).length (kmL k L 54).length] w fun e w' => ∃ g', e = .returned (.pointer (some ⟨g', 0, none⟩)) ∧ w.heap.size ≤ g' ∧ StAt w' g' k (keyP k L 54) ∧ Below w.heap.size w w') := fun g g0 w hs hb => HBH.out (kmL k L 54) _ _ g w (by rw [kmL_len]; omega) hs hb
  have HB2 : Hid (∀ (g g0 : Nat) (w : World), StAt w g k (newP k) → ByAt w (.slice (some ⟨g0, 0, none⟩) (kmL k L 92).length (kmL k L 92).length) (kmL k L 92) → Calls Try.prog 57 #[.pointer (some ⟨g, 0, none⟩), .slice (some ⟨g0, 0, none⟩) (kmL k L 92).length (kmL k L 92).length] w fun e w' => ∃ g', e = .returned (.pointer (some ⟨g', 0, none⟩)) ∧ w.heap.size ≤ g' ∧ StAt w' g' k (keyP k L 92) ∧ Below w.heap.size w w') := fun g g0 w hs hb => HBH.out (kmL k L 92) _ _ g w (by rw [kmL_len]; omega) hs hb
  have HBL := hidD (fun g w h1 h2 => HBH.out L a cap g w hL h1 h2)
  have HPK : Hid (padK k L = L) := by show _ = _; unfold padK; rw [if_neg hlong]
  have HDL : Hid ((dgL k (feedP k (newP k) L)).length = k / 8) := dgL_len _ _
  have HM1 : Hid (∀ (g0 : Nat) (w : World), RowZ w g0 .u8 (blkN k) 5 (fun i => (((padK k L).getD i 0).toNat : Int)) → Calls Try.prog 58 #[.slice (some ⟨g0, 0, none⟩) (blkN k) (blkN k), .int .u8 54] w fun e w' => ∃ g, e = .returned (.slice (some ⟨g, 0, none⟩) (kmL k L 54).length (kmL k L 54).length) ∧ ByAt w' (.slice (some ⟨g, 0, none⟩) (kmL k L 54).length (kmL k L 54).length) (kmL k L 54) ∧ Below w.heap.size w w') := fun g0 w h => HMK.out 54 g0 w h
  have HM2 : Hid (∀ (g0 : Nat) (w : World), RowZ w g0 .u8 (blkN k) 5 (fun i => (((padK k L).getD i 0).toNat : Int)) → Calls Try.prog 58 #[.slice (some ⟨g0, 0, none⟩) (blkN k) (blkN k), .int .u8 92] w fun e w' => ∃ g, e = .returned (.slice (some ⟨g, 0, none⟩) (kmL k L 92).length (kmL k L 92).length) ∧ ByAt w' (.slice (some ⟨g, 0, none⟩) (kmL k L 92).length (kmL k L 92).length) (kmL k L 92) ∧ Below w.heap.size w w') := fun g0 w h => HMK.out 92 g0 w h
  obtain ⟨hz, hsz⟩ := zero_of_info Try.zero75z
  have HI : Hid ((Try.prog.info? 63).map (·.size) = some 2) := hsz
  have hi5 : (Try.prog.info? 5).map (·.size) = some 1 := by obtain ⟨i0, hi, _, h1, _⟩ := info_parts Try.info5; rw [hi]; simp [h1]
  have HR0 : Hid ((w.alloc (.cells #[.pointer none, .pointer none] (63 : TypeId))).heap[w.heap.size]? = some (.cells #[.pointer none, .pointer none] (63 : TypeId) (0, 0))) := heap_alloc_last _ _
  have HA0 : Hid (Below w.heap.size w (w.alloc (.cells #[.pointer none, .pointer none] (63 : TypeId)))) := (Below.refl _ _).alloc (Nat.le_refl _) _
  have HBY := hidD hb
  have hlong2 : ¬ (blkN k : Int) < (L.length : Int) := by omega
  clear hsz hb HBH HMK
  generalize hM54 : kmL k L 54 = M54 at *
  generalize hM92 : kmL k L 92 = M92 at *
  clear hM54 hM92
  generalize hPK : padK k L = PK at *
  clear hPK
  generalize hP1 : keyP k L 54 = P1 at *
  generalize hP2 : keyP k L 92 = P2 at *
  clear hP1 hP2
  generalize hDD : feedP k (newP k) L = DD at *
  clear hDD
  generalize hBK : blkN k = BK at *
  clear hBK
  generalize hLL : L.length = LL at *
  have HLL := hidD hLL
  clear hLL hlong
  generalize hK8 : k / 8 = K8 at *
  have HK8 := hidD hK8
  clear hK8
  generalize M54.length = N54 at *
  generalize M92.length = N92 at *
  go_enter Try.func33, Try.ntmps33
  go_wp2_with fail
  go_at_call 30
  refine (HBG.out _).mono ?_
  rintro e w1 ⟨gB, rfl, hgB, hsB, hx1⟩
  have R1 := hidD ((hx1.block _ (row_lt HR0.out)).trans HR0.out)
  have B1 := hidD (Below.next HA0.out hx1)
  have S1 := hidD hsB
  have Y1 := hidD (HBY.out.next (Below.next HA0.out hx1))
  clear hgB hsB hx1 HR0 HA0 HBG HBY
  go_upto_region 7 with (go_at_call 36; refine (HSZ.out _).mono ?_; rintro e wx ⟨rfl, hx⟩; subst wx)
  have R3 := R1
  have B3 := B1
  have S3 := S1
  have Y3 : Hid (ByAt w1 (.slice a LL cap) PK) := by show ByAt _ _ _; rw [HPK.out]; exact Y1.out
  have N3 : Hid (PK.length = LL) := by show _ = _; rw [HPK.out]; exact HLL.out
  clear R1 B1 S1 Y1
  go_upto_region 8 with (at_make; refine wpList_makeB w1 rfl _ _ rfl .i64 .i64 (BK : Int) (BK : Int) BK rfl rfl rfl rfl (by omega) ?_; intro w4 hr4 hx4)
  have M4 := hidD hr4.out
  have R4 := hidD ((hx4.block _ (row_lt R3.out)).trans R3.out)
  have B4 := hidD (Below.next B3.out hx4)
  have S4 := hidD (S3.out.next hx4)
  have hpkl : LL ≤ BK := by rw [← N3.out]; exact hkl
  have SRC : Hid (0 < LL → ∃ g' o', a = some ⟨g', o', none⟩ ∧ ∀ j, j < LL → w4.cell? ⟨g', o' + j, none⟩ = some (.int .u8 ((PK.getD j 0).toNat : Int))) := by
    intro h0
    have hY := Y3.out.next hx4
    rw [← N3.out] at hY h0
    obtain ⟨g', o', e1, e2, e3⟩ := hY.src h0
    exact ⟨g', o', e1, fun j hj => e3 j (by rw [N3.out]; exact hj)⟩
  have GM : Hid (w.heap.size < w1.heap.size ∧ gB < w1.heap.size) := ⟨row_lt R3.out, S3.out.lt⟩
  clear hr4 hx4 R3 B3 S3 Y3
  generalize hgM : w1.heap.size = gM at *
  clear hgM
  go_upto_region 9 with (refine wpList_copy_Z rfl _ _ 22 22 rfl 5 Try.underlying22 hi5 (some ⟨gM, 0, none⟩) a BK BK LL cap rfl rfl .u8 gM 0 BK LL (fun _ => 0) (fun i => ((PK.getD i 0).toNat : Int)) 5 M4.out (by show LL = min LL BK; omega) (fun h0 => ⟨rfl, SRC.out h0⟩) (by omega) ?_; intro w5 hr5 hx5)
  have M5 : Hid (RowZ w5 gM .u8 BK 5 (fun i => ((PK.getD i 0).toNat : Int))) := hr5.out.congr fun i _ => by
    by_cases h : i < LL
    · rw [if_pos ⟨Nat.zero_le _, by omega⟩, Nat.sub_zero]
    · rw [if_neg (by omega), List.getD_eq_getElem?_getD, List.getElem?_eq_none (by rw [N3.out]; omega)]; rfl
  have R5 := hidD ((hx5.rest _ (row_lt R4.out) (by have := GM.out; omega)).trans R4.out)
  have B5 : Hid (Below w.heap.size w w5) := B4.out.trans (hx5.bel.mono (by have := GM.out; omega))
  have S5 := hidD (S4.out.but hx5 (by have := GM.out; omega))
  clear hr5 hx5 M4 R4 B4 S4 SRC
  go_wp2_with fail
  go_at_call 58
  refine (HM1.out gM _ M5.out).mono ?_
  rintro e w6 ⟨gI, rfl, hyI, hx6⟩
  have M6 := hidD (M5.out.next hx6)
  have R6 := hidD ((hx6.block _ (row_lt R5.out)).trans R5.out)
  have B6 := hidD (Below.next B5.out hx6)
  have S6 := hidD (S5.out.next hx6)
  have Y6 := hidD hyI
  clear hyI hx6 M5 R5 B5 S5
  go_wp2_with fail
  go_at_call 57
  refine (HB1.out gB gI _ S6.out Y6.out).mono ?_
  rintro e w7 ⟨g1, rfl, hg1, hs1, hx7⟩
  have M7 := hidD (M6.out.next hx7)
  have R7 := hidD ((hx7.block _ (row_lt R6.out)).trans R6.out)
  have B7 := hidD (Below.next B6.out hx7)
  have S7 := hidD (S6.out.next hx7)
  have P7 := hidD hs1
  have G7 : Hid (w.heap.size ≤ g1 ∧ w.heap.size < g1) := ⟨Nat.le_trans B6.out.size hg1, Nat.lt_of_lt_of_le (row_lt R6.out) hg1⟩
  clear hg1 hs1 hx7 M6 R6 B6 S6 Y6
  go_wp2_with fail
  go_at_call 58
  refine (HM2.out gM _ M7.out).mono ?_
  rintro e w8 ⟨gO, rfl, hyO, hx8⟩
  have R8 := hidD ((hx8.block _ (row_lt R7.out)).trans R7.out)
  have B8 := hidD (Below.next B7.out hx8)
  have S8 := hidD (S7.out.next hx8)
  have P8 := hidD (P7.out.next hx8)
  have Y8 := hidD hyO
  clear hyO hx8 M7 R7 B7 S7 P7
  go_wp2_with fail
  go_at_call 57
  refine (HB2.out gB gO _ S8.out Y8.out).mono ?_
  rintro e w9 ⟨g2, rfl, hg2, hs2, hx9⟩
  have R9 := hidD ((hx9.block _ (row_lt R8.out)).trans R8.out)
  have B9 := hidD (Below.next B8.out hx9)
  have P9 := hidD (P8.out.next hx9)
  have Q9 := hidD hs2
  have G9 : Hid (w.heap.size ≤ g2 ∧ g1 ≠ g2 ∧ w.heap.size < w8.heap.size) := ⟨Nat.le_trans B8.out.size hg2, by have := P8.out.lt; omega, row_lt R8.out⟩
  have GA : Hid (g1 ≠ w.heap.size ∧ g2 ≠ w.heap.size) := ⟨by have := G7.out; omega, by have := row_lt R8.out; omega⟩
  clear hg2 hs2 hx9 R8 B8 S8 P8 Y8
  go_wp2_with (refine wpList_store_row rfl 63 _ _ rfl w.heap.size #[.pointer (some ⟨g1, 0, none⟩), .pointer (some ⟨g2, 0, none⟩)] rfl rfl 63 #[.pointer none, .pointer none] R9.out HI.out rfl (by simp [Value.oneCell']) ?_)
  refine bodyPost_ret (v := .tuple #[.agg #[.pointer (some ⟨g1, 0, none⟩), .pointer (some ⟨g2, 0, none⟩)], .int .i64 0]) ?_ rfl ?_
  · exact res_pair (p := 4) (u := 5) (by kernel_rfl) _ _ w.heap.size _ rfl (setRow_heap _ _ _ _ _ _ R9.out) Try.underlying63 HI.out
  · exact ⟨g1, g2, rfl, G7.out.1, G9.out.1, G9.out.2.1, (setRow_other _ _ _ _ GA.out.1).trans P9.out, (setRow_other _ _ _ _ GA.out.2).trans Q9.out, below_setRow B9.out (Nat.le_refl _) _⟩
set_option maxRecDepth 100000 in
set_option maxHeartbeats 1600000 in
theorem newKeyedL (k : Nat) (hk : Kind k) (L : List UInt8) (hL : L.length ≤ 4611686018427387904) (hlong : blkN k < L.length) (a : Option Addr) (cap : Nat) (w : World) (hb : ByAt w (.slice a L.length cap) L) : Calls Try.prog 33 #[.int .i64 (k : Int), .slice a L.length cap] w fun e w' => ∃ g1 g2, e = .returned (.tuple #[.agg #[.pointer (some ⟨g1, 0, none⟩), .pointer (some ⟨g2, 0, none⟩)], .int .i64 0]) ∧ w.heap.size ≤ g1 ∧ w.heap.size ≤ g2 ∧ g1 ≠ g2 ∧ StAt w' g1 k (keyP k L 54) ∧ StAt w' g2 k (keyP k L 92) ∧ Below w.heap.size w w' := by
  have HBG : Hid (∀ w, Calls Try.prog 30 #[.int .i64 (k : Int)] w fun e w' => ∃ g, e = .returned (.tuple #[.pointer (some ⟨g, 0, none⟩), .int .i64 0]) ∧ w.heap.size ≤ g ∧ StAt w' g k (newP k) ∧ Below w.heap.size w w') := fun w => begin_any k hk w
  have HSZ : Hid (∀ w, Calls Try.prog 36 #[.int .i64 (k : Int)] w fun e w' => e = .returned (.tuple #[.int .i64 ((k / 8 : Nat) : Int), .int .i64 (blkN k : Int), .int .i64 0]) ∧ w' = w) := fun w => size_any k hk w
  have HBH : Hid (∀ (M : List UInt8) (a : Option Addr) (cap : Nat) (g : Nat) (w : World), M.length ≤ 4611686018427387904 → StAt w g k (newP k) → ByAt w (.slice a M.length cap) M → Calls Try.prog 57 #[.pointer (some ⟨g, 0, none⟩), .slice a M.length cap] w fun e w' => ∃ g', e = .returned (.pointer (some ⟨g', 0, none⟩)) ∧ w.heap.size ≤ g' ∧ StAt w' g' k (feedP k (newP k) M) ∧ Below w.heap.size w w') := fun M a cap g w hM hs hb => behind_any k hk g _ (show 0 < 18446744073709551616 by decide) (newP_lt k hk) M hM a cap w hs hb
  have HSM : Hid (∀ (g : Nat) (w : World), StAt w g k (feedP k (newP k) L) → Calls Try.prog 28 #[.pointer (some ⟨g, 0, none⟩)] w fun e w' => ∃ g', e = .returned (.slice (some ⟨g', 0, none⟩) (k / 8) (k / 8)) ∧ w.heap.size ≤ g' ∧ RowZ w' g' .u8 (k / 8) 5 (fun i => ((dgP k (feedP k (newP k) L) i).toNat : Int)) ∧ Below w.heap.size w w') := fun g w h => stSum_any k hk g _ (feed_nlt k _ (show 0 < 18446744073709551616 by decide) L) (feed_lt2 k hk L) w h
  obtain ⟨hbp1, hbp2⟩ := blk_pos k
  have hkl := padK_le k hk L
  have HMK : Hid (∀ (m : UInt8) (g0 : Nat) (w : World), RowZ w g0 .u8 (blkN k) 5 (fun i => (((padK k L).getD i 0).toNat : Int)) → Calls Try.prog 58 #[.slice (some ⟨g0, 0, none⟩) (blkN k) (blkN k), .int .u8 (m.toNat : Int)] w fun e w' => ∃ g, e = .returned (.slice (some ⟨g, 0, none⟩) (kmL k L m).length (kmL k L m).length) ∧ ByAt w' (.slice (some ⟨g, 0, none⟩) (kmL k L m).length (kmL k L m).length) (kmL k L m) ∧ Below w.heap.size w w') := fun m g0 w h => by
    refine (masked_any (fun i => (padK k L).getD i 0) m g0 0 (blkN k) (blkN k) (by omega) w h.lt (fun q hq => by rw [Nat.zero_add]; exact h.cell hq)).mono fun e w' ⟨g, h1, h2, h3, h4⟩ => ⟨g, by rw [kmL_len]; exact h1, ?_, h4⟩
    have := rowZ_by h3
    rw [List.length_map, List.length_range] at this
    rw [kmL_len]; exact this
  have HB1 : Hid (∀ (g g0 : Nat) (w : World), StAt w g k (newP k) → ByAt w (.slice (some ⟨g0, 0, none⟩) (kmL k L 54).length (kmL k L 54).length) (kmL k L 54) → Calls Try.prog 57 #[.pointer (some ⟨g, 0, none⟩), .slice (some ⟨g0, 0, none⟩) (kmL k L 54).length (kmL k L 54).length] w fun e w' => ∃ g', e = .returned (.pointer (some ⟨g', 0, none⟩)) ∧ w.heap.size ≤ g' ∧ StAt w' g' k (keyP k L 54) ∧ Below w.heap.size w w') := fun g g0 w hs hb => HBH.out (kmL k L 54) _ _ g w (by rw [kmL_len]; omega) hs hb
  have HB2 : Hid (∀ (g g0 : Nat) (w : World), StAt w g k (newP k) → ByAt w (.slice (some ⟨g0, 0, none⟩) (kmL k L 92).length (kmL k L 92).length) (kmL k L 92) → Calls Try.prog 57 #[.pointer (some ⟨g, 0, none⟩), .slice (some ⟨g0, 0, none⟩) (kmL k L 92).length (kmL k L 92).length] w fun e w' => ∃ g', e = .returned (.pointer (some ⟨g', 0, none⟩)) ∧ w.heap.size ≤ g' ∧ StAt w' g' k (keyP k L 92) ∧ Below w.heap.size w w') := fun g g0 w hs hb => HBH.out (kmL k L 92) _ _ g w (by rw [kmL_len]; omega) hs hb
  have HBL := hidD (fun g w h1 h2 => HBH.out L a cap g w hL h1 h2)
  have HPK : Hid (padK k L = dgL k (feedP k (newP k) L)) := by show _ = _; unfold padK; rw [if_pos hlong]
  have HDL : Hid ((dgL k (feedP k (newP k) L)).length = k / 8) := dgL_len _ _
  have HM1 : Hid (∀ (g0 : Nat) (w : World), RowZ w g0 .u8 (blkN k) 5 (fun i => (((padK k L).getD i 0).toNat : Int)) → Calls Try.prog 58 #[.slice (some ⟨g0, 0, none⟩) (blkN k) (blkN k), .int .u8 54] w fun e w' => ∃ g, e = .returned (.slice (some ⟨g, 0, none⟩) (kmL k L 54).length (kmL k L 54).length) ∧ ByAt w' (.slice (some ⟨g, 0, none⟩) (kmL k L 54).length (kmL k L 54).length) (kmL k L 54) ∧ Below w.heap.size w w') := fun g0 w h => HMK.out 54 g0 w h
  have HM2 : Hid (∀ (g0 : Nat) (w : World), RowZ w g0 .u8 (blkN k) 5 (fun i => (((padK k L).getD i 0).toNat : Int)) → Calls Try.prog 58 #[.slice (some ⟨g0, 0, none⟩) (blkN k) (blkN k), .int .u8 92] w fun e w' => ∃ g, e = .returned (.slice (some ⟨g, 0, none⟩) (kmL k L 92).length (kmL k L 92).length) ∧ ByAt w' (.slice (some ⟨g, 0, none⟩) (kmL k L 92).length (kmL k L 92).length) (kmL k L 92) ∧ Below w.heap.size w w') := fun g0 w h => HMK.out 92 g0 w h
  obtain ⟨hz, hsz⟩ := zero_of_info Try.zero75z
  have HI : Hid ((Try.prog.info? 63).map (·.size) = some 2) := hsz
  have hi5 : (Try.prog.info? 5).map (·.size) = some 1 := by obtain ⟨i0, hi, _, h1, _⟩ := info_parts Try.info5; rw [hi]; simp [h1]
  have HR0 : Hid ((w.alloc (.cells #[.pointer none, .pointer none] (63 : TypeId))).heap[w.heap.size]? = some (.cells #[.pointer none, .pointer none] (63 : TypeId) (0, 0))) := heap_alloc_last _ _
  have HA0 : Hid (Below w.heap.size w (w.alloc (.cells #[.pointer none, .pointer none] (63 : TypeId)))) := (Below.refl _ _).alloc (Nat.le_refl _) _
  have HBY := hidD hb
  have hlong2 : (blkN k : Int) < (L.length : Int) := by omega
  clear hsz hb HBH HMK
  generalize hM54 : kmL k L 54 = M54 at *
  generalize hM92 : kmL k L 92 = M92 at *
  clear hM54 hM92
  generalize hPK : padK k L = PK at *
  clear hPK
  generalize hP1 : keyP k L 54 = P1 at *
  generalize hP2 : keyP k L 92 = P2 at *
  clear hP1 hP2
  generalize hDD : feedP k (newP k) L = DD at *
  clear hDD
  generalize hBK : blkN k = BK at *
  clear hBK
  generalize hLL : L.length = LL at *
  have HLL := hidD hLL
  clear hLL hlong
  generalize hK8 : k / 8 = K8 at *
  have HK8 := hidD hK8
  clear hK8
  generalize M54.length = N54 at *
  generalize M92.length = N92 at *
  go_enter Try.func33, Try.ntmps33
  go_wp2_with fail
  go_at_call 30
  refine (HBG.out _).mono ?_
  rintro e w1 ⟨gB, rfl, hgB, hsB, hx1⟩
  have R1 := hidD ((hx1.block _ (row_lt HR0.out)).trans HR0.out)
  have B1 := hidD (Below.next HA0.out hx1)
  have S1 := hidD hsB
  have Y1 := hidD (HBY.out.next (Below.next HA0.out hx1))
  clear hgB hsB hx1 HR0 HA0 HBG HBY
  go_wp2_with (go_at_call 36; refine (HSZ.out _).mono ?_; rintro e wx ⟨rfl, hx⟩; subst wx)
  go_at_call 57
  refine (HBL.out gB _ S1.out Y1.out).mono ?_
  rintro e w2 ⟨gL, rfl, hgL, hsL, hx2⟩
  have R2 := hidD ((hx2.block _ (row_lt R1.out)).trans R1.out)
  have B2 := hidD (Below.next B1.out hx2)
  have S2 := hidD (S1.out.next hx2)
  have T2 := hidD hsL
  clear hgL hsL hx2 R1 B1 S1 Y1
  go_wp2_with fail
  go_at_call 28
  refine (HSM.out gL _ T2.out).mono ?_
  rintro e w3 ⟨gD, rfl, hgD, hrD, hx3⟩
  have R3 := hidD ((hx3.block _ (row_lt R2.out)).trans R2.out)
  have B3 := hidD (Below.next B2.out hx3)
  have S3 := hidD (S2.out.next hx3)
  have Y3 : Hid (ByAt w3 (.slice (some ⟨gD, 0, none⟩) K8 K8) PK) := by
    show ByAt _ _ _
    rw [HPK.out]
    have h := rowZ_by hrD
    rw [List.length_map, List.length_range] at h
    unfold dgL
    rw [HK8.out]; exact h
  have N3 : Hid (PK.length = K8) := by show _ = _; rw [HPK.out]; exact HDL.out
  clear hgD hrD hx3 R2 B2 S2 T2
  obtain ⟨aK, haK⟩ : ∃ aK : Option Addr, aK = some ⟨gD, 0, none⟩ := ⟨_, rfl⟩
  rw [← haK] at Y3
  go_upto_region 7 with fail
  rw [← haK]
  clear haK
  obtain ⟨cK, hcK⟩ : ∃ cK : Nat, cK = K8 := ⟨_, rfl⟩
  go_upto_region 8 with (at_make; refine wpList_makeB w3 rfl _ _ rfl .i64 .i64 (BK : Int) (BK : Int) BK rfl rfl rfl rfl (by omega) ?_; intro w4 hr4 hx4)
  have M4 := hidD hr4.out
  have R4 := hidD ((hx4.block _ (row_lt R3.out)).trans R3.out)
  have B4 := hidD (Below.next B3.out hx4)
  have S4 := hidD (S3.out.next hx4)
  have hpkl : K8 ≤ BK := by rw [← N3.out]; exact hkl
  have SRC : Hid (0 < K8 → ∃ g' o', aK = some ⟨g', o', none⟩ ∧ ∀ j, j < K8 → w4.cell? ⟨g', o' + j, none⟩ = some (.int .u8 ((PK.getD j 0).toNat : Int))) := by
    intro h0
    have hY := Y3.out.next hx4
    rw [← N3.out] at hY h0
    obtain ⟨g', o', e1, e2, e3⟩ := hY.src h0
    exact ⟨g', o', e1, fun j hj => e3 j (by rw [N3.out]; exact hj)⟩
  have GM : Hid (w.heap.size < w3.heap.size ∧ gB < w3.heap.size) := ⟨row_lt R3.out, S3.out.lt⟩
  clear hr4 hx4 R3 B3 S3 Y3
  generalize hgM : w3.heap.size = gM at *
  clear hgM
  go_upto_region 9 with (refine wpList_copy_Z rfl _ _ 22 22 rfl 5 Try.underlying22 hi5 (some ⟨gM, 0, none⟩) aK BK BK K8 K8 rfl rfl .u8 gM 0 BK K8 (fun _ => 0) (fun i => ((PK.getD i 0).toNat : Int)) 5 M4.out (by show K8 = min K8 BK; omega) (fun h0 => ⟨rfl, SRC.out h0⟩) (by omega) ?_; intro w5 hr5 hx5)
  have M5 : Hid (RowZ w5 gM .u8 BK 5 (fun i => ((PK.getD i 0).toNat : Int))) := hr5.out.congr fun i _ => by
    by_cases h : i < K8
    · rw [if_pos ⟨Nat.zero_le _, by omega⟩, Nat.sub_zero]
    · rw [if_neg (by omega), List.getD_eq_getElem?_getD, List.getElem?_eq_none (by rw [N3.out]; omega)]; rfl
  have R5 := hidD ((hx5.rest _ (row_lt R4.out) (by have := GM.out; omega)).trans R4.out)
  have B5 : Hid (Below w.heap.size w w5) := B4.out.trans (hx5.bel.mono (by have := GM.out; omega))
  have S5 := hidD (S4.out.but hx5 (by have := GM.out; omega))
  clear hr5 hx5 M4 R4 B4 S4 SRC
  go_wp2_with fail
  go_at_call 58
  refine (HM1.out gM _ M5.out).mono ?_
  rintro e w6 ⟨gI, rfl, hyI, hx6⟩
  have M6 := hidD (M5.out.next hx6)
  have R6 := hidD ((hx6.block _ (row_lt R5.out)).trans R5.out)
  have B6 := hidD (Below.next B5.out hx6)
  have S6 := hidD (S5.out.next hx6)
  have Y6 := hidD hyI
  clear hyI hx6 M5 R5 B5 S5
  go_wp2_with fail
  go_at_call 57
  refine (HB1.out gB gI _ S6.out Y6.out).mono ?_
  rintro e w7 ⟨g1, rfl, hg1, hs1, hx7⟩
  have M7 := hidD (M6.out.next hx7)
  have R7 := hidD ((hx7.block _ (row_lt R6.out)).trans R6.out)
  have B7 := hidD (Below.next B6.out hx7)
  have S7 := hidD (S6.out.next hx7)
  have P7 := hidD hs1
  have G7 : Hid (w.heap.size ≤ g1 ∧ w.heap.size < g1) := ⟨Nat.le_trans B6.out.size hg1, Nat.lt_of_lt_of_le (row_lt R6.out) hg1⟩
  clear hg1 hs1 hx7 M6 R6 B6 S6 Y6
  go_wp2_with fail
  go_at_call 58
  refine (HM2.out gM _ M7.out).mono ?_
  rintro e w8 ⟨gO, rfl, hyO, hx8⟩
  have R8 := hidD ((hx8.block _ (row_lt R7.out)).trans R7.out)
  have B8 := hidD (Below.next B7.out hx8)
  have S8 := hidD (S7.out.next hx8)
  have P8 := hidD (P7.out.next hx8)
  have Y8 := hidD hyO
  clear hyO hx8 M7 R7 B7 S7 P7
  go_wp2_with fail
  go_at_call 57
  refine (HB2.out gB gO _ S8.out Y8.out).mono ?_
  rintro e w9 ⟨g2, rfl, hg2, hs2, hx9⟩
  have R9 := hidD ((hx9.block _ (row_lt R8.out)).trans R8.out)
  have B9 := hidD (Below.next B8.out hx9)
  have P9 := hidD (P8.out.next hx9)
  have Q9 := hidD hs2
  have G9 : Hid (w.heap.size ≤ g2 ∧ g1 ≠ g2 ∧ w.heap.size < w8.heap.size) := ⟨Nat.le_trans B8.out.size hg2, by have := P8.out.lt; omega, row_lt R8.out⟩
  have GA : Hid (g1 ≠ w.heap.size ∧ g2 ≠ w.heap.size) := ⟨by have := G7.out; omega, by have := row_lt R8.out; omega⟩
  clear hg2 hs2 hx9 R8 B8 S8 P8 Y8
  go_wp2_with (refine wpList_store_row rfl 63 _ _ rfl w.heap.size #[.pointer (some ⟨g1, 0, none⟩), .pointer (some ⟨g2, 0, none⟩)] rfl rfl 63 #[.pointer none, .pointer none] R9.out HI.out rfl (by simp [Value.oneCell']) ?_)
  refine bodyPost_ret (v := .tuple #[.agg #[.pointer (some ⟨g1, 0, none⟩), .pointer (some ⟨g2, 0, none⟩)], .int .i64 0]) ?_ rfl ?_
  · exact res_pair (p := 4) (u := 5) (by kernel_rfl) _ _ w.heap.size _ rfl (setRow_heap _ _ _ _ _ _ R9.out) Try.underlying63 HI.out
  · exact ⟨g1, g2, rfl, G7.out.1, G9.out.1, G9.out.2.1, (setRow_other _ _ _ _ GA.out.1).trans P9.out, (setRow_other _ _ _ _ GA.out.2).trans Q9.out, below_setRow B9.out (Nat.le_refl _) _⟩
end Go.Proofs.Ytnldpofljeodiaa
/- What mac of sha answers. -/
namespace Go.Proofs.Ytnldpofljeodiaa
open Go.RowKit
set_option linter.unusedVariables false

theorem newKeyed_any (k : Nat) (hk : Kind k) (L : List UInt8) (hL : L.length ≤ 4611686018427387904) (a : Option Addr) (cap : Nat) (w : World) (hb : ByAt w (.slice a L.length cap) L) : Calls Try.prog 33 #[.int .i64 (k : Int), .slice a L.length cap] w fun e w' => ∃ g1 g2, e = .returned (.tuple #[.agg #[.pointer (some ⟨g1, 0, none⟩), .pointer (some ⟨g2, 0, none⟩)], .int .i64 0]) ∧ w.heap.size ≤ g1 ∧ w.heap.size ≤ g2 ∧ g1 ≠ g2 ∧ StAt w' g1 k (keyP k L 54) ∧ StAt w' g2 k (keyP k L 92) ∧ Below w.heap.size w w' := by
  by_cases h : blkN k < L.length
  · exact newKeyedL k hk L hL h a cap w hb
  · exact newKeyedS k hk L hL h a cap w hb
/- rows of bytes: the parts of a message -/
def PartsAt (w : World) (sl : Value) (ps : List (List UInt8)) : Prop := ∃ g off cap, sl = .slice (some ⟨g, off, none⟩) ps.length cap ∧ g < w.heap.size ∧ ∀ j, j < ps.length → ∃ a c, w.cell? ⟨g, off + j, none⟩ = some (.slice a (ps.getD j []).length c) ∧ ByAt w (.slice a (ps.getD j []).length c) (ps.getD j [])
def mcP (k : Nat) (si so : Ps) (M : List UInt8) : Nat → UInt8 := dgP k (feedP k so (dgL k (feedP k si M)))
theorem flat_snoc (k : Nat) (s : Ps) (ps : List (List UInt8)) (i : Nat) (h : i < ps.length) : feedP k s (ps.take (i + 1)).flatten = feedP k (feedP k s (ps.take i).flatten) (ps.getD i []) := by
  rw [List.take_add_one, List.flatten_append, feed_app, List.getElem?_eq_getElem h, List.getD_eq_getElem?_getD, List.getElem?_eq_getElem h]
  simp
set_option maxRecDepth 100000 in
set_option maxHeartbeats 3200000 in
theorem mac_any (k : Nat) (hk : Kind k) (si so : Ps) (hin : si.n < 18446744073709551616) (hic : ∀ j, si.c j < mdK k) (hon : so.n < 18446744073709551616) (hoc : ∀ j, so.c j < mdK k) (gi go : Nat) (ps : List (List UInt8)) (hps : ∀ j, (ps.getD j []).length ≤ 4611686018427387904) (hpl : ps.length ≤ 1000) (sl : Value) (w : World) (hsi : StAt w gi k si) (hso : StAt w go k so) (hp : PartsAt w sl ps) : Calls Try.prog 34 #[.agg #[.pointer (some ⟨gi, 0, none⟩), .pointer (some ⟨go, 0, none⟩)], sl] w fun e w' => ∃ g', e = .returned (.slice (some ⟨g', 0, none⟩) (k / 8) (k / 8)) ∧ w.heap.size ≤ g' ∧ RowZ w' g' .u8 (k / 8) 5 (fun i => ((mcP k si so ps.flatten i).toNat : Int)) ∧ Below w.heap.size w w' := by
  have HCI : Hid (∀ w, StAt w gi k si → Calls Try.prog 32 #[.pointer (some ⟨gi, 0, none⟩)] w fun e w' => ∃ g', e = .returned (.pointer (some ⟨g', 0, none⟩)) ∧ w.heap.size ≤ g' ∧ StAt w' g' k si ∧ Below w.heap.size w w') := fun w h => clone_any k gi si w h
  have HCO : Hid (∀ w, StAt w go k so → Calls Try.prog 32 #[.pointer (some ⟨go, 0, none⟩)] w fun e w' => ∃ g', e = .returned (.pointer (some ⟨g', 0, none⟩)) ∧ w.heap.size ≤ g' ∧ StAt w' g' k so ∧ Below w.heap.size w w') := fun w h => clone_any k go so w h
  have HWP : Hid (∀ (i : Nat) (g : Nat) (a : Option Addr) (c : Nat) (w : World), StAt w g k (feedP k si (ps.take i).flatten) → ByAt w (.slice a (ps.getD i []).length c) (ps.getD i []) → ((ps.getD i []) ≠ [] → Off (.slice a (ps.getD i []).length c) g) → Calls Try.prog 26 #[.pointer (some ⟨g, 0, none⟩), .slice a (ps.getD i []).length c] w fun e w' => e = .returned (.int .i64 ((ps.getD i []).length : Int)) ∧ StAt w' g k (feedP k (feedP k si (ps.take i).flatten) (ps.getD i [])) ∧ But g w w') := fun i g a c w h1 h2 h3 => write_any k hk g _ (feed_nlt k si hin _) (feed_lt k _ si hic) _ (hps i) a c w h1 h2 h3
  have HFS : Hid (∀ i, i < ps.length → feedP k si (ps.take (i + 1)).flatten = feedP k (feedP k si (ps.take i).flatten) (ps.getD i [])) := fun i h => flat_snoc k si ps i h
  have HSI : Hid (∀ (g : Nat) (w : World), StAt w g k (feedP k si ps.flatten) → Calls Try.prog 28 #[.pointer (some ⟨g, 0, none⟩)] w fun e w' => ∃ g', e = .returned (.slice (some ⟨g', 0, none⟩) (dgL k (feedP k si ps.flatten)).length (dgL k (feedP k si ps.flatten)).length) ∧ w.heap.size ≤ g' ∧ ByAt w' (.slice (some ⟨g', 0, none⟩) (dgL k (feedP k si ps.flatten)).length (dgL k (feedP k si ps.flatten)).length) (dgL k (feedP k si ps.flatten)) ∧ Below w.heap.size w w') := fun g w h => (stSum_any k hk g _ (feed_nlt k si hin _) (feed_lt k _ si hic) w h).mono fun e w' ⟨g', h1, h2, h3, h4⟩ => ⟨g', by rw [dgL_len]; exact h1, h2, by rw [dgL_len]; exact dg_by h3, h4⟩
  have HWO : Hid (∀ (g g0 : Nat) (w : World), g0 ≠ g → StAt w g k so → ByAt w (.slice (some ⟨g0, 0, none⟩) (dgL k (feedP k si ps.flatten)).length (dgL k (feedP k si ps.flatten)).length) (dgL k (feedP k si ps.flatten)) → Calls Try.prog 26 #[.pointer (some ⟨g, 0, none⟩), .slice (some ⟨g0, 0, none⟩) (dgL k (feedP k si ps.flatten)).length (dgL k (feedP k si ps.flatten)).length] w fun e w' => e = .returned (.int .i64 ((dgL k (feedP k si ps.flatten)).length : Int)) ∧ StAt w' g k (feedP k so (dgL k (feedP k si ps.flatten))) ∧ But g w w') := fun g g0 w hne h1 h2 => write_any k hk g so hon hoc _ (by rw [dgL_len]; have := hk.le; omega) _ _ w h1 h2 (fun _ h o n c e => by simp only [Value.slice.injEq, Option.some.injEq, Addr.mk.injEq] at e; omega)
  have HSO : Hid (∀ (g : Nat) (w : World), StAt w g k (feedP k so (dgL k (feedP k si ps.flatten))) → Calls Try.prog 28 #[.pointer (some ⟨g, 0, none⟩)] w fun e w' => ∃ g', e = .returned (.slice (some ⟨g', 0, none⟩) (k / 8) (k / 8)) ∧ w.heap.size ≤ g' ∧ RowZ w' g' .u8 (k / 8) 5 (fun i => ((mcP k si so ps.flatten i).toNat : Int)) ∧ Below w.heap.size w w') := fun g w h => stSum_any k hk g _ (feed_nlt k so hon _) (feed_lt k _ so hoc) w h
  obtain ⟨gp, off, cap, rfl, hgp, hpc⟩ := hp
  have HPC := hidD hpc
  have HGP := hidD hgp
  have W1 : Hid ((w.alloc (.cells #[.pointer (some ⟨gi, 0, none⟩), .pointer (some ⟨go, 0, none⟩)] (63 : TypeId))).heap[w.heap.size]? = some (.cells #[.pointer (some ⟨gi, 0, none⟩), .pointer (some ⟨go, 0, none⟩)] (63 : TypeId) (0, 0))) := heap_alloc_last _ _
  have B1 : Hid (Below w.heap.size w (w.alloc (.cells #[.pointer (some ⟨gi, 0, none⟩), .pointer (some ⟨go, 0, none⟩)] (63 : TypeId)))) := (Below.refl _ _).alloc (Nat.le_refl _) _
  have HSI0 := hidD hsi
  have HSO0 := hidD hso
  clear hpc hgp hsi hso hps hic hoc
  generalize hFI : feedP k si ps.flatten = FI at *
  have HFI := hidD hFI
  clear hFI
  generalize hDL : dgL k FI = DL at *
  clear hDL
  generalize hMC : mcP k si so ps.flatten = MC at *
  clear hMC
  generalize feedP k so DL = FO at *
  obtain ⟨K8, hK8⟩ : ∃ K8, k / 8 = K8 := ⟨_, rfl⟩
  rw [hK8] at HSO
  rw [hK8]
  clear hK8
  generalize DL.length = ND at *
  generalize hPL : ps.length = PL at *
  have HPL := hidD hPL
  clear hPL
  go_enter Try.func34, Try.ntmps34
  go_upto_region 1 with fail
  obtain ⟨WA, hWA⟩ : ∃ WA : World, WA = w.alloc (.cells #[.pointer (some ⟨gi, 0, none⟩), .pointer (some ⟨go, 0, none⟩)] (63 : TypeId)) := ⟨_, rfl⟩
  refine at_world hWA ?_
  rw [← hWA] at W1 B1
  clear hWA
  have SA := hidD (HSI0.out.next B1.out)
  have OA := hidD (HSO0.out.next B1.out)
  have c0 : ∀ i : KB WA [w.heap.size, gi, go], i.v.cell? ⟨w.heap.size, 0, none⟩ = some (.pointer (some ⟨gi, 0, none⟩)) := fun i => by rw [cell_of_row _ _ _ _ _ _ ((i.keep w.heap.size (by simp)).trans W1.out)]; rfl
  have c1 : ∀ i : KB WA [w.heap.size, gi, go], i.v.cell? ⟨w.heap.size, 1, none⟩ = some (.pointer (some ⟨go, 0, none⟩)) := fun i => by rw [cell_of_row _ _ _ _ _ _ ((i.keep w.heap.size (by simp)).trans W1.out)]; rfl
  have HKK : Hid (∀ wB, Below WA.heap.size WA wB → ∃ i : KB WA [w.heap.size, gi, go], wB = i.v) := fun wB hb => ⟨⟨wB, fun x hx => by
    rcases (show x = w.heap.size ∨ x = gi ∨ x = go by simpa using hx) with h | h | h <;> subst h
    · exact hb.block _ (row_lt W1.out)
    · exact hb.block _ SA.out.lt
    · exact hb.block _ OA.out.lt⟩, rfl⟩
  refine wp_region_loud0 [true, true, false, true, true, false, false, false] [w.heap.size, gi, go] (by kernel_rfl) (by kernel_rfl) (by kernel_rfl) (by kernel_rfl) (by kernel_rfl) (fun _ _ _ _ _ h => h) ?_
  simp only [qPick, lPick]
  repeat (go_big_quiet_step (fail))
  refine wpQuiet_nil ?_
  simp only [LoudW]
  clear c0 c1
  have HD : Hid (Below WA.heap.size WA WA.drew) := (Below.refl _ _).drew
  have SD : Hid (StAt WA.drew gi k si) := SA.out
  go_wp2_with (go_at_call 32; refine (HCI.out _ SD.out).mono ?_; rintro e w2 ⟨g1, rfl, hg1, hs1, hx2⟩)
  have K2 : Hid (Below WA.heap.size WA w2) := HD.out.trans hx2
  have S2 := hidD hs1
  have O2 : Hid (StAt w2 go k so) := OA.out.next K2.out
  have G2 : Hid (w.heap.size < g1) := Nat.lt_of_lt_of_le (row_lt W1.out) hg1
  clear hg1 hs1 hx2
  refine ⟨HKK.out _ K2.out, ?_⟩
  go_wp2_with (go_at_call 32; refine (HCO.out _ O2.out).mono ?_; rintro e w3 ⟨g2, rfl, hg2, hs2, hx3⟩)
  have K3 : Hid (Below WA.heap.size WA w3) := Below.next K2.out hx3
  have S3 := hidD (S2.out.next hx3)
  have O3 := hidD hs2
  have G3 : Hid (g1 < g2) := Nat.lt_of_lt_of_le S2.out.lt hg2
  have B3 : Hid (Below w.heap.size w w3) := Below.next B1.out K3.out
  clear hg2 hs2 hx3
  refine ⟨HKK.out _ K3.out, ?_⟩
  go_wp2_with fail
  refine ⟨HKK.out _ K3.out, ?_⟩
  go_wp2_with fail
  refine ⟨HKK.out _ K3.out, ?_⟩
  clear HKK K2 HD SD SA OA W1 B1 S2 O2
  go_wp2_with fail
  go_loopw [17] (fun iv wr => ∃ i : Nat, i ≤ PL ∧ iv = .int .i64 (i : Int) ∧ StAt wr g1 k (feedP k si (ps.take i).flatten) ∧ But g1 w3 wr) (fun iv _ => PL - (intOf iv).toNat)
  case atStart => exact ⟨0, Nat.zero_le _, rfl, S3.out, But.refl _ _⟩
  case round =>
    clear S3
    obtain ⟨i, hi, rfl, hst, hbut⟩ := hrel
    by_cases hlt : i < PL
    · have hlti : (i : Int) < (PL : Int) := by omega
      obtain ⟨ai, ci, hci, hyi⟩ := HPC.out i hlt
      have hgl := HGP.out
      have hg1 := G2.out
      have c0 : wr.cell? ⟨gp, off + i, none⟩ = some (.slice ai (ps.getD i []).length ci) := by
        rw [hbut.cell (i := gp) (o := off + i) (Nat.lt_of_lt_of_le hgl B3.out.size) (by omega), B3.out.cell (p := ⟨gp, off + i, none⟩) hgl]
        exact hci
      have hoff : (ps.getD i []) ≠ [] → Off (.slice ai (ps.getD i []).length ci) g1 := by_off hyi (Nat.le_of_lt hg1)
      have hy : ByAt wr (.slice ai (ps.getD i []).length ci) (ps.getD i []) := (hyi.next B3.out).but' hbut hoff
      have HW := hidD (HWP.out i g1 ai ci wr hst hy hoff)
      have HN := hidD (HFS.out i hlt)
      have HB := hidD hbut
      clear hst hbut hy hoff hyi hci hgl hg1
      generalize (ps.getD i []).length = Li at *
      go_wp2_with fail
      go_at_call 26
      refine HW.out.mono ?_
      rintro e w4 ⟨rfl, hs4, hx4⟩
      have H4 : Hid (StAt w4 g1 k (feedP k si (ps.take (i + 1)).flatten)) := by show StAt _ _ _ _; rw [HN.out]; exact hs4
      have B4 := hidD (HB.out.trans hx4)
      clear hs4 hx4 HW HB
      go_wp2_with fail
      go_roundw
      case rel =>
        first
        | exact ⟨i + 1, by omega, by go_num, H4.out, B4.out⟩
        | ((repeat apply Exists.intro); refine And.intro ?_ rfl; exact ⟨i + 1, by omega, by go_num, H4.out, B4.out⟩)
      case measure => simp [intOf]; omega
    · obtain rfl : i = PL := by omega
      have hlti : ¬ (i : Int) < (i : Int) := by omega
      have H5 : Hid (StAt wr g1 k FI) := by
        have h := hst
        rw [← HPL.out, List.take_length, HFI.out] at h
        exact h
      have O5 : Hid (StAt wr g2 k so) := O3.out.but hbut (by have := G3.out; omega)
      have B5 : Hid (Below w.heap.size w wr) := B3.out.trans (hbut.bel.mono (by have := G2.out; omega))
      clear hst hbut
      go_wp2_with fail
      go_at_call 28
      refine (HSI.out g1 _ H5.out).mono ?_
      rintro e w6 ⟨g6, rfl, hg6, hy6, hx6⟩
      have O6 := hidD (O5.out.next hx6)
      have B6 := hidD (Below.next B5.out hx6)
      have W6 := hidD (HWO.out g2 g6 _ (by have := O5.out.lt; omega) O6.out hy6)
      clear hg6 hy6 hx6 O5 B5 H5
      go_wp2_with fail
      go_at_call 26
      refine W6.out.mono ?_
      rintro e w7 ⟨rfl, hs7, hx7⟩
      have B7 : Hid (Below w.heap.size w w7) := B6.out.trans (hx7.bel.mono (by have := G2.out; have := G3.out; omega))
      have S7 := hidD (HSO.out g2 _ hs7)
      clear hs7 hx7 W6 B6 O6
      go_wp2_with fail
      go_at_call 28
      refine S7.out.mono ?_
      rintro e w8 ⟨g8, rfl, hg8, hr8, hx8⟩
      have HF : Hid (w.heap.size ≤ g8 ∧ RowZ w8 g8 .u8 K8 5 (fun i => ((MC i).toNat : Int)) ∧ Below w.heap.size w w8) := ⟨Nat.le_trans B7.out.size hg8, hr8, Below.next B7.out hx8⟩
      clear hg8 hr8 hx8 S7 B7
      go_wp2_with fail
      go_ret
      exact ⟨g8, rfl, HF.out⟩
end Go.Proofs.Ytnldpofljeodiaa
/- What Mac of sha answers; keys that are taken for one. -/
namespace Go.Proofs.Ytnldpofljeodiaa
open Go.RowKit
set_option linter.unusedVariables false

/- the code of a message under a key -/
def mkP (k : Nat) (key M : List UInt8) : Nat → UInt8 := mcP k (keyP k key 54) (keyP k key 92) M
theorem keyP_n (k : Nat) (key : List UInt8) (m : UInt8) : (keyP k key m).n < 18446744073709551616 := feed_nlt k _ (show 0 < 18446744073709551616 by decide) _
theorem keyP_c (k : Nat) (hk : Kind k) (key : List UInt8) (m : UInt8) : ∀ j, (keyP k key m).c j < mdK k := feed_lt2 k hk _
/- keys that are taken for one -/
theorem mk_congr (k : Nat) (K K' M : List UInt8) (h : ∀ i, i < blkN k → (padK k K).getD i 0 = (padK k K').getD i 0) : mkP k K M = mkP k K' M := by
  have hm : ∀ m, kmL k K m = kmL k K' m := fun m => List.map_congr_left fun i hi => by rw [h i (List.mem_range.1 hi)]
  unfold mkP keyP
  rw [hm, hm]
theorem mk_long (k : Nat) (hk : Kind k) (K M : List UInt8) (h : blkN k < K.length) : mkP k K M = mkP k (dgL k (feedP k (newP k) K)) M := by
  refine mk_congr k _ _ M fun i _ => ?_
  have h2 := padK_le k hk K
  have e : padK k K = dgL k (feedP k (newP k) K) := by unfold padK; rw [if_pos h]
  rw [e] at h2 ⊢
  unfold padK
  rw [if_neg (by omega)]
theorem mk_zeros (k : Nat) (K M : List UInt8) (m : Nat) (h : K.length + m ≤ blkN k) : mkP k K M = mkP k (K ++ List.replicate m 0) M := by
  refine mk_congr k _ _ M fun i _ => ?_
  unfold padK
  rw [if_neg (by omega), if_neg (by rw [List.length_append, List.length_replicate]; omega)]
  rw [List.getD_eq_getElem?_getD, List.getD_eq_getElem?_getD]
  by_cases hi : i < K.length
  · rw [List.getElem?_append_left hi]
  · rw [List.getElem?_append_right (by omega), List.getElem?_eq_none (by omega)]
    by_cases h2 : i - K.length < m
    · simp [h2]
    · simp [h2]
set_option maxRecDepth 100000 in
set_option maxHeartbeats 1600000 in
theorem macLaw_any (k : Nat) (hk : Kind k) (K M : List UInt8) (hK : K.length ≤ 4611686018427387904) (hM : M.length ≤ 4611686018427387904) (a a' : Option Addr) (cap cap' : Nat) (w : World) (hb : ByAt w (.slice a K.length cap) K) (hm : ByAt w (.slice a' M.length cap') M) : Calls Try.prog 14 #[.int .i64 (k : Int), .slice a K.length cap, .slice a' M.length cap'] w fun e w' => ∃ g', e = .returned (.tuple #[.slice (some ⟨g', 0, none⟩) (k / 8) (k / 8), .int .i64 0]) ∧ w.heap.size ≤ g' ∧ RowZ w' g' .u8 (k / 8) 5 (fun i => ((mkP k K M i).toNat : Int)) ∧ Below w.heap.size w w' := by
  have HNK : Hid (∀ w, ByAt w (.slice a K.length cap) K → Calls Try.prog 33 #[.int .i64 (k : Int), .slice a K.length cap] w fun e w' => ∃ g1 g2, e = .returned (.tuple #[.agg #[.pointer (some ⟨g1, 0, none⟩), .pointer (some ⟨g2, 0, none⟩)], .int .i64 0]) ∧ w.heap.size ≤ g1 ∧ w.heap.size ≤ g2 ∧ g1 ≠ g2 ∧ StAt w' g1 k (keyP k K 54) ∧ StAt w' g2 k (keyP k K 92) ∧ Below w.heap.size w w') := fun w h => newKeyed_any k hk K hK a cap w h
  have HMC : Hid (∀ (g1 g2 gS : Nat) (w : World), StAt w g1 k (keyP k K 54) → StAt w g2 k (keyP k K 92) → w.heap[gS]? = some (.cells #[.slice a' M.length cap'] (22 : TypeId) (0, 0)) → ByAt w (.slice a' M.length cap') M → Calls Try.prog 34 #[.agg #[.pointer (some ⟨g1, 0, none⟩), .pointer (some ⟨g2, 0, none⟩)], .slice (some ⟨gS, 0, none⟩) 1 1] w fun e w' => ∃ g', e = .returned (.slice (some ⟨g', 0, none⟩) (k / 8) (k / 8)) ∧ w.heap.size ≤ g' ∧ RowZ w' g' .u8 (k / 8) 5 (fun i => ((mkP k K M i).toNat : Int)) ∧ Below w.heap.size w w') := fun g1 g2 gS w h1 h2 h3 h4 => by
    have := mac_any k hk (keyP k K 54) (keyP k K 92) (keyP_n k K 54) (keyP_c k hk K 54) (keyP_n k K 92) (keyP_c k hk K 92) g1 g2 [M] (fun j => by
      cases j with
      | zero => exact hM
      | succ j => simp) (by simp) (.slice (some ⟨gS, 0, none⟩) 1 1) w h1 h2 ⟨gS, 0, 1, rfl, row_lt h3, fun j hj => by
        obtain rfl : j = 0 := by simp at hj; exact hj
        exact ⟨a', cap', by rw [cell_of_row _ _ _ _ _ _ h3]; rfl, h4⟩⟩
    rw [show [M].flatten = M by simp] at this
    exact this
  have HBK := hidD hb
  have HBM := hidD hm
  obtain ⟨hz, hsz⟩ := zero_of_info Try.zero75z
  have HI : Hid (∀ x y : Value, (Try.prog.info? 63).map (·.size) = some (#[x, y] : Array Value).size) := fun _ _ => hsz
  clear hb hm hsz
  generalize K.length = LK at *
  generalize M.length = LM at *
  obtain ⟨K8, hK8⟩ : ∃ K8, k / 8 = K8 := ⟨_, rfl⟩
  rw [hK8] at HMC
  rw [hK8]
  clear hK8
  go_enter Try.func14, Try.ntmps14
  go_wp2_with fail
  go_at_call 33
  refine (HNK.out _ HBK.out).mono ?_
  rintro e w1 ⟨g1, g2, rfl, hg1, hg2, hne, hs1, hs2, hx1⟩
  go_upto_region 2 with (refine wpList_store_row rfl 63 _ _ rfl w1.heap.size #[.pointer (some ⟨g1, 0, none⟩), .pointer (some ⟨g2, 0, none⟩)] rfl rfl 63 #[.pointer none, .pointer none] (heap_alloc_last _ _) (HI.out _ _) rfl (by simp [Value.oneCell']) ?_)
  obtain ⟨W2, hW2⟩ : ∃ W2 : World, W2 = (w1.alloc (.cells #[.pointer none, .pointer none] (63 : TypeId))).setRow w1.heap.size #[.pointer (some ⟨g1, 0, none⟩), .pointer (some ⟨g2, 0, none⟩)] := ⟨_, rfl⟩
  refine at_world hW2 ?_
  have hx2 : Below w1.heap.size w1 W2 := by rw [hW2]; exact below_setRow ((Below.refl _ _).alloc (Nat.le_refl _) _) (Nat.le_refl _) _
  have R2 : Hid (W2.heap[w1.heap.size]? = some (.cells #[.pointer (some ⟨g1, 0, none⟩), .pointer (some ⟨g2, 0, none⟩)] (63 : TypeId) (0, 0))) := by show _ = _; rw [hW2]; exact setRow_heap _ _ _ _ _ _ (heap_alloc_last _ _)
  have S2 := hidD (hs1.next hx2)
  have T2 := hidD (hs2.next hx2)
  have B2 := hidD (Below.next hx1 hx2)
  have M2 := hidD (HBM.out.next (Below.next hx1 hx2))
  clear hs1 hs2 hx1 hx2 hg1 hg2 hne hW2 HNK HBK HBM
  generalize hgR : w1.heap.size = gR at *
  clear hgR
  go_wp2_with (refine wpList_load_row rfl 63 _ rfl gR rfl 63 #[.pointer (some ⟨g1, 0, none⟩), .pointer (some ⟨g2, 0, none⟩)] (0, 0) _ R2.out Try.underlying63 rfl (HI.out _ _) ?_)
  go_at_call 34
  have hx3 : Below W2.heap.size W2 (W2.alloc (.cells #[.slice a' LM cap'] (22 : TypeId))) := (Below.refl _ _).alloc (Nat.le_refl _) _
  have V3 := hidD (HMC.out g1 g2 W2.heap.size (W2.alloc (.cells #[.slice a' LM cap'] (22 : TypeId))) (S2.out.next hx3) (T2.out.next hx3) (heap_alloc_last _ _) (M2.out.next hx3))
  have B3 := hidD (Below.next B2.out hx3)
  clear hx3
  refine V3.out.mono ?_
  rintro e w4 ⟨g4, rfl, hg4, hr4, hx4⟩
  have HF : Hid (w.heap.size ≤ g4 ∧ RowZ w4 g4 .u8 K8 5 (fun i => ((mkP k K M i).toNat : Int)) ∧ Below w.heap.size w w4) := ⟨Nat.le_trans B3.out.size hg4, hr4, Below.next B3.out hx4⟩
  clear hg4 hr4 hx4 V3
  go_wp2_with fail
  go_ret2
  exact ⟨g4, rfl, HF.out⟩
end Go.Proofs.Ytnldpofljeodiaa
