/- Texts of one proof, one behind the other. -/
import Derived.Test.YtnldpofljeodiaaGk
/- What folded of sha answers. -/
namespace Go.Proofs.Ytnldpofljeodiaa
open Go.RowKit
set_option linter.unusedVariables false

/- the codes one behind the other, and their exclusive or -/
def fdU (k : Nat) (key first : List UInt8) : Nat → List UInt8
  | 0 => first
  | j + 1 => mkL k key (fdU k key first j)
def fdS (k : Nat) (key first : List UInt8) : Nat → Nat → UInt8
  | 0, i => first.getD i 0
  | j + 1, i => fdS k key first j i ^^^ (fdU k key first (j + 1)).getD i 0
theorem fdU_len (k : Nat) (key first : List UInt8) (h : first.length = k / 8) : ∀ j, (fdU k key first j).length = k / 8
  | 0 => h
  | j + 1 => mkL_len _ _ _
theorem u8_xor_b (x y : UInt8) : bits .xor .u8 (x.toNat : Int) (y.toNat : Int) = ((x ^^^ y).toNat : Int) := by
  have h1 := x.toNat_lt
  have h2 := y.toNat_lt
  show IntKind.u8.wrap ((BitVec.ofInt 8 (x.toNat : Int) ^^^ BitVec.ofInt 8 (y.toNat : Int)).toNat : Int) = _
  rw [BitVec.toNat_xor]
  have e : ∀ z : UInt8, (BitVec.ofInt 8 (z.toNat : Int)).toNat = z.toNat := fun z => by
    have := z.toNat_lt
    simp
  rw [e, e, UInt8.toNat_xor, IntKind.wrap_u8]
  have : x.toNat ^^^ y.toNat < 2 ^ 8 := Nat.xor_lt_two_pow h1 h2
  omega
set_option maxRecDepth 100000 in
set_option maxHeartbeats 3200000 in
theorem folded_any (k : Nat) (hk : Kind k) (key first : List UInt8) (hfl : first.length = k / 8) (r : Nat) (hr : r ≤ 2048) (g1 g2 gF : Nat) (w : World) (hs1 : StAt w g1 k (keyP k key 54)) (hs2 : StAt w g2 k (keyP k key 92)) (hF : ByAt w (.slice (some ⟨gF, 0, none⟩) (k / 8) (k / 8)) first) : Calls Try.prog 41 #[.agg #[.pointer (some ⟨g1, 0, none⟩), .pointer (some ⟨g2, 0, none⟩)], .slice (some ⟨gF, 0, none⟩) (k / 8) (k / 8), .int .i64 ((r : Int) + 1)] w fun e w' => ∃ g, e = .returned (.slice (some ⟨g, 0, none⟩) (k / 8) (k / 8)) ∧ w.heap.size ≤ g ∧ RowZ w' g .u8 (k / 8) 5 (fun i => ((fdS k key first r i).toNat : Int)) ∧ Below w.heap.size w w' := by
  have hk8 : 0 < k / 8 ∧ k / 8 ≤ 64 := by rcases hk with rfl | rfl | rfl | rfl <;> decide
  have HMC : Hid (∀ (j gS gA : Nat) (w : World), StAt w g1 k (keyP k key 54) → StAt w g2 k (keyP k key 92) → w.heap[gS]? = some (.cells #[.slice (some ⟨gA, 0, none⟩) (k / 8) (k / 8)] (22 : TypeId) (0, 0)) → ByAt w (.slice (some ⟨gA, 0, none⟩) (k / 8) (k / 8)) (fdU k key first j) → Calls Try.prog 34 #[.agg #[.pointer (some ⟨g1, 0, none⟩), .pointer (some ⟨g2, 0, none⟩)], .slice (some ⟨gS, 0, none⟩) 1 1] w fun e w' => ∃ g', e = .returned (.slice (some ⟨g', 0, none⟩) (k / 8) (k / 8)) ∧ w.heap.size ≤ g' ∧ ByAt w' (.slice (some ⟨g', 0, none⟩) (k / 8) (k / 8)) (fdU k key first (j + 1)) ∧ Below w.heap.size w w') := fun j gS gA w h1 h2 h3 h4 => by
    have hl := fdU_len k key first hfl j
    have := mac_any k hk (keyP k key 54) (keyP k key 92) (keyP_n k key 54) (keyP_c k hk key 54) (keyP_n k key 92) (keyP_c k hk key 92) g1 g2 [fdU k key first j] (fun q => by
      cases q with
      | zero => show (fdU k key first j).length ≤ _; rw [hl]; omega
      | succ q => simp) (by simp) (.slice (some ⟨gS, 0, none⟩) 1 1) w h1 h2 ⟨gS, 0, 1, rfl, row_lt h3, fun q hq => by
        obtain rfl : q = 0 := by simp at hq; exact hq
        exact ⟨some ⟨gA, 0, none⟩, k / 8, by rw [cell_of_row _ _ _ _ _ _ h3]; show _ = some (Value.slice (some ⟨gA, 0, none⟩) (fdU k key first j).length (k / 8)); rw [hl]; rfl, by show ByAt w (.slice _ (fdU k key first j).length _) (fdU k key first j); rw [hl]; exact h4⟩⟩
    rw [show [fdU k key first j].flatten = fdU k key first j by simp] at this
    refine this.mono fun e w' ⟨g', q1, q2, q3, q4⟩ => ⟨g', q1, q2, ?_, q4⟩
    have := rowZ_by q3
    rw [List.length_map, List.length_range] at this
    exact this
  have HFL := hidD (fdU_len k key first hfl)
  have HFS : Hid (∀ j i, fdS k key first (j + 1) i = fdS k key first j i ^^^ (fdU k key first (j + 1)).getD i 0) := fun _ _ => rfl
  have HF0 : Hid (∀ i, fdS k key first 0 i = first.getD i 0) := fun _ => rfl
  have HU0 : Hid (fdU k key first 0 = first) := rfl
  have W1 : Hid ((w.alloc (.cells #[.pointer (some ⟨g1, 0, none⟩), .pointer (some ⟨g2, 0, none⟩)] (63 : TypeId))).heap[w.heap.size]? = some (.cells #[.pointer (some ⟨g1, 0, none⟩), .pointer (some ⟨g2, 0, none⟩)] (63 : TypeId) (0, 0))) := heap_alloc_last _ _
  have B1 : Hid (Below w.heap.size w (w.alloc (.cells #[.pointer (some ⟨g1, 0, none⟩), .pointer (some ⟨g2, 0, none⟩)] (63 : TypeId)))) := (Below.refl _ _).alloc (Nat.le_refl _) _
  obtain ⟨hz, hsz⟩ := zero_of_info Try.zero75z
  have HI : Hid ((Try.prog.info? 63).map (·.size) = some (#[.pointer (some ⟨g1, 0, none⟩), .pointer (some ⟨g2, 0, none⟩)] : Array Value).size) := hsz
  have hi5 : (Try.prog.info? 5).map (·.size) = some 1 := by obtain ⟨i0, hi, _, h1, _⟩ := info_parts Try.info5; rw [hi]; simp [h1]
  have S0 := hidD hs1
  have T0 := hidD hs2
  have Y0 := hidD hF
  clear hs1 hs2 hF hsz hz
  generalize hK8 : k / 8 = K8 at *
  clear hK8
  generalize hFU : fdU k key first = FU at *
  clear hFU
  generalize hFS : fdS k key first = FS at *
  clear hFS
  go_enter Try.func41, Try.ntmps41
  go_upto_region 1 with fail
  obtain ⟨WA, hWA⟩ : ∃ WA : World, WA = w.alloc (.cells #[.pointer (some ⟨g1, 0, none⟩), .pointer (some ⟨g2, 0, none⟩)] (63 : TypeId)) := ⟨_, rfl⟩
  refine at_world hWA ?_
  rw [← hWA] at W1 B1
  clear hWA
  go_upto_region 2 with (at_make; refine wpList_makeB WA rfl _ _ rfl .i64 .i64 (K8 : Int) (K8 : Int) K8 rfl rfl rfl rfl (by omega) ?_; intro w2 hr2 hx2)
  have M2 := hidD hr2.out
  have R2 := hidD ((hx2.block _ (row_lt W1.out)).trans W1.out)
  have B2 := hidD (Below.next B1.out hx2)
  have Y2 := hidD (Y0.out.next B2.out)
  have GM : Hid (w.heap.size < WA.heap.size) := row_lt W1.out
  have SRC : Hid (∀ j, j < K8 → w2.cell? ⟨gF, 0 + j, none⟩ = some (.int .u8 ((first.getD j 0).toNat : Int))) := by
    have h := Y2.out
    rw [← hfl] at h
    obtain ⟨g', o', e1, e2, e3⟩ := h.src (by omega)
    simp only [Option.some.injEq, Addr.mk.injEq] at e1
    obtain ⟨rfl, rfl, _⟩ := e1
    exact fun j hj => e3 j (by omega)
  clear hr2 hx2 W1 B1
  generalize hgM : WA.heap.size = gM at *
  clear hgM
  go_upto_region 3 with (refine wpList_copy_Z rfl _ _ 22 22 rfl 5 Try.underlying22 hi5 (some ⟨gM, 0, none⟩) (some ⟨gF, 0, none⟩) K8 K8 K8 K8 rfl rfl .u8 gM 0 K8 K8 (fun _ => 0) (fun i => ((first.getD i 0).toNat : Int)) 5 M2.out (by show K8 = min K8 K8; omega) (fun h0 => ⟨rfl, gF, 0, rfl, SRC.out⟩) (by omega) ?_; intro w3 hr3 hx3)
  have M3 : Hid (RowZ w3 gM .u8 K8 5 (fun i => ((FS 0 i).toNat : Int))) := hr3.out.congr fun i hi => by rw [if_pos ⟨Nat.zero_le _, by omega⟩, Nat.sub_zero, HF0.out]
  have R3 := hidD ((hx3.rest _ (row_lt R2.out) (by have := GM.out; omega)).trans R2.out)
  have B3 : Hid (Below w.heap.size w w3) := B2.out.trans (hx3.bel.mono (Nat.le_of_lt GM.out))
  have Y3 : Hid (ByAt w3 (.slice (some ⟨gF, 0, none⟩) K8 K8) (FU 0)) := by rw [HU0.out]; exact Y0.out.next B3.out
  have LF : Hid (gF < w.heap.size) := by
    have h := Y0.out
    rw [← hfl] at h
    obtain ⟨g', o', e1, e2, e3⟩ := h.src (by omega)
    simp only [Option.some.injEq, Addr.mk.injEq] at e1
    obtain ⟨rfl, rfl, _⟩ := e1
    exact e2
  clear hr3 hx3 M2 R2 B2 Y2 SRC
  go_wp2_with fail
  go_loopw [8, 20] (fun lv iv wr => ∃ j gA : Nat, j ≤ r ∧ iv = .int .i64 (j : Int) ∧ lv = .slice (some ⟨gA, 0, none⟩) K8 K8 ∧ Hid (gA ≠ gM) ∧ ByAt wr (.slice (some ⟨gA, 0, none⟩) K8 K8) (FU j) ∧ RowZ wr gM .u8 K8 5 (fun i => ((FS j i).toNat : Int)) ∧ But gM w3 wr) (fun _ iv _ => r - (intOf iv).toNat)
  case atStart => exact ⟨0, gF, Nat.zero_le _, rfl, rfl, (by show gF ≠ gM; have := LF.out; have := GM.out; omega), Y3.out, M3.out, But.refl _ _⟩
  case round =>
    clear Y3 M3
    obtain ⟨j, gA, hj, rfl, rfl, HNE, hyA, hrow, hbut⟩ := hrel
    have YA := hidD hyA
    have ROW := hidD hrow
    have BUT := hidD hbut
    clear hyA hrow hbut
    have RK : Hid (wr.heap[w.heap.size]? = some (.cells #[.pointer (some ⟨g1, 0, none⟩), .pointer (some ⟨g2, 0, none⟩)] (63 : TypeId) (0, 0))) := (BUT.out.rest _ (row_lt R3.out) (by have := GM.out; omega)).trans R3.out
    have S1 : Hid (StAt wr g1 k (keyP k key 54)) := (S0.out.next B3.out).but BUT.out (by have := S0.out.lt; have := GM.out; omega)
    have T1 : Hid (StAt wr g2 k (keyP k key 92)) := (T0.out.next B3.out).but BUT.out (by have := T0.out.lt; have := GM.out; omega)
    obtain ⟨wo, hwo⟩ : ∃ wo, wo = wr := ⟨_, rfl⟩
    subst hwo
    by_cases hlt : j < r
    · have hlti : (j : Int) < (r : Int) := by omega
      go_wp2_with (refine wpList_load_row rfl 63 _ rfl w.heap.size rfl 63 #[.pointer (some ⟨g1, 0, none⟩), .pointer (some ⟨g2, 0, none⟩)] (0, 0) _ RK.out Try.underlying63 rfl HI.out ?_)
      go_at_call 34
      have hx4 : Below wo.heap.size wo (wo.alloc (.cells #[.slice (some ⟨gA, 0, none⟩) K8 K8] (22 : TypeId))) := (Below.refl _ _).alloc (Nat.le_refl _) _
      have V4 := hidD (HMC.out j wo.heap.size gA (wo.alloc (.cells #[.slice (some ⟨gA, 0, none⟩) K8 K8] (22 : TypeId))) (S1.out.next hx4) (T1.out.next hx4) (heap_alloc_last _ _) (YA.out.next hx4))
      have X4 := hidD hx4
      clear hx4
      refine V4.out.mono ?_
      rintro e w5 ⟨gN, rfl, hgN, hyN, hx5⟩
      have X5 := hidD (Below.next X4.out hx5)
      have R5 := hidD (ROW.out.next X5.out)
      have N5 : Hid (gN ≠ gM) := by have := ROW.out.lt; have := X4.out.size; show gN ≠ gM; omega
      have B5 : Hid (But gM w3 w5) := BUT.out.trans (But.of X5.out (Nat.le_of_lt ROW.out.lt))
      have Y5 := hidD hyN
      have SRC : Hid (gN < w5.heap.size ∧ ∀ q, q < K8 → w5.cell? ⟨gN, 0 + q, none⟩ = some (.int .u8 (((FU (j + 1)).getD q 0).toNat : Int))) := by
        have h := hyN
        rw [← HFL.out (j + 1)] at h
        obtain ⟨g', o', e1, e2, e3⟩ := h.src (by rw [HFL.out]; omega)
        simp only [Option.some.injEq, Addr.mk.injEq] at e1
        obtain ⟨rfl, rfl, _⟩ := e1
        exact ⟨e2, fun q hq => e3 q (by rw [HFL.out]; exact hq)⟩
      have R5' : Hid (RowZ w5 gM .u8 K8 5 (fun q => ((if q < 0 then FS (j + 1) q else FS j q : UInt8).toNat : Int))) := R5.out.congr fun q _ => by rw [if_neg (Nat.not_lt_zero _)]
      clear hgN hyN hx5 V4 X4 X5 R5 ROW BUT YA S1 T1 RK
      go_wp2_with fail
      go_loopw [28] (fun iv wr => ∃ q : Nat, q ≤ K8 ∧ iv = .int .i64 (q : Int) ∧ RowZ wr gM .u8 K8 5 (fun i => ((if i < q then FS (j + 1) i else FS j i : UInt8).toNat : Int)) ∧ But gM w5 wr) (fun iv _ => K8 - (intOf iv).toNat)
      case atStart => exact ⟨0, Nat.zero_le _, rfl, R5'.out, But.refl _ _⟩
      case round =>
        clear R5'
        obtain ⟨q, hq, rfl, hrow, hbut⟩ := hrel
        by_cases hqlt : q < K8
        · have hqlti : (q : Int) < (K8 : Int) := by omega
          have c0 : wr.cell? ⟨gN, q, none⟩ = some (.int .u8 (((FU (j + 1)).getD q 0).toNat : Int)) := by
            have h := SRC.out.2 q hqlt
            rw [Nat.zero_add] at h
            rw [hbut.cell SRC.out.1 N5.out]; exact h
          have c1 : wr.cell? ⟨gM, q, none⟩ = some (.int .u8 ((FS j q).toNat : Int)) := by rw [hrow.cell hqlt, if_neg (Nat.lt_irrefl _)]
          have c2 := hrow.frozen q
          have hx : bits .xor .u8 ((FS j q).toNat : Int) (((FU (j + 1)).getD q 0).toNat : Int) = ((FS (j + 1) q).toNat : Int) := by rw [u8_xor_b, HFS.out]
          have HN : Hid (RowZ (wr.setCell ⟨gM, q, none⟩ (.int .u8 ((FS (j + 1) q).toNat : Int))) gM .u8 K8 5 (fun i => ((if i < q + 1 then FS (j + 1) i else FS j i : UInt8).toNat : Int))) := (hrow.set hqlt _).congr fun i _ => by
            by_cases h1 : i = q
            · subst h1; rw [if_pos rfl, if_pos (by omega)]
            · rw [if_neg h1]
              by_cases h2 : i < q
              · rw [if_pos h2, if_pos (by omega)]
              · rw [if_neg h2, if_neg (by omega)]
          have HB : Hid (But gM w5 (wr.setCell ⟨gM, q, none⟩ (.int .u8 ((FS (j + 1) q).toNat : Int)))) := hbut.put _ _
          clear hrow hbut
          generalize ((FS (j + 1) q).toNat : Int) = Z1 at *
          generalize ((FS j q).toNat : Int) = Z0 at *
          generalize (((FU (j + 1)).getD q 0).toNat : Int) = Z2 at *
          go_wp2_with fail
          go_roundw
          case rel =>
            first
            | exact ⟨q + 1, by omega, by go_num, HN.out, HB.out⟩
            | ((repeat apply Exists.intro); refine And.intro ?_ rfl; exact ⟨q + 1, by omega, by go_num, HN.out, HB.out⟩)
          case measure => simp [intOf]; omega
        · obtain rfl : q = K8 := by omega
          have hqlti : ¬ (q : Int) < (q : Int) := by omega
          have HN : Hid (RowZ wr gM .u8 q 5 (fun i => ((FS (j + 1) i).toNat : Int))) := hrow.congr fun i hi => by rw [if_pos hi]
          have HB : Hid (But gM w3 wr) := B5.out.trans hbut
          have HY : Hid (ByAt wr (.slice (some ⟨gN, 0, none⟩) q q) (FU (j + 1))) := Y5.out.but' hbut (fun _ h o n c e => by simp only [Value.slice.injEq, Option.some.injEq, Addr.mk.injEq] at e; have := N5.out; omega)
          clear hrow hbut
          go_wp2_with fail
          go_roundw
          case rel =>
            first
            | exact ⟨j + 1, gN, by omega, by go_num, rfl, N5, HY.out, HN.out, HB.out⟩
            | ((repeat apply Exists.intro); refine And.intro ?_ rfl; exact ⟨j + 1, gN, by omega, by go_num, rfl, N5, HY.out, HN.out, HB.out⟩)
          case measure => simp [intOf]; omega
    · obtain rfl : j = r := by omega
      have hlti : ¬ (j : Int) < (j : Int) := by omega
      have HF : Hid (w.heap.size ≤ gM ∧ RowZ wo gM .u8 K8 5 (fun i => ((FS j i).toNat : Int)) ∧ Below w.heap.size w wo) := ⟨Nat.le_of_lt GM.out, ROW.out, B3.out.trans (BUT.out.bel.mono (Nat.le_of_lt GM.out))⟩
      go_wp2_with fail
      go_ret
      exact ⟨gM, rfl, HF.out⟩
end Go.Proofs.Ytnldpofljeodiaa
/- What Stretch's closure and Stretch of sha answer. -/
namespace Go.Proofs.Ytnldpofljeodiaa
open Go.RowKit
set_option linter.unusedVariables false

def stF (k : Nat) (key salt : List UInt8) (i : Nat) : List UInt8 := mkL k key (salt ++ [0, 0, 0, UInt8.ofNat i])
def stT (k : Nat) (key salt : List UInt8) (r : Nat) (i : Nat) : List UInt8 := (List.range (k / 8)).map (fdS k key (stF k key salt i) r)
theorem stT_len (k : Nat) (key salt : List UInt8) (r i : Nat) : (stT k key salt r i).length = k / 8 := by simp [stT]
set_option maxRecDepth 100000 in
set_option maxHeartbeats 1600000 in
theorem stretch1_any (k : Nat) (hk : Kind k) (key salt : List UInt8) (hS : salt.length ≤ 4611686018427387904) (r : Nat) (hr : r ≤ 1023) (gK gS gR g1 g2 : Nat) (i : Nat) (hi : i < 255) (aS : Option Addr) (cS : Nat) (a : World) (hK : a.heap[gK]? = some (.cells #[.pointer (some ⟨g1, 0, none⟩), .pointer (some ⟨g2, 0, none⟩)] (63 : TypeId) (0, 0))) (hs1 : StAt a g1 k (keyP k key 54)) (hs2 : StAt a g2 k (keyP k key 92)) (hgS : a.heap[gS]? = some (.cells #[.slice aS salt.length cS] (22 : TypeId) (0, 0))) (hbS : ByAt a (.slice aS salt.length cS) salt) (hgR : a.heap[gR]? = some (.cells #[.int .i64 ((r : Int) + 1)] (3 : TypeId) (0, 0))) : Calls Try.prog 40 #[.int .i64 ((i + 1 : Nat) : Int), .pointer (some ⟨gK, 0, none⟩), .pointer (some ⟨gS, 0, none⟩), .pointer (some ⟨gR, 0, none⟩)] a fun e b => ∃ gN, e = .returned (.slice (some ⟨gN, 0, none⟩) (k / 8) (k / 8)) ∧ a.heap.size ≤ gN ∧ RowZ b gN .u8 (k / 8) 5 (fun j => ((fdS k key (stF k key salt (i + 1)) r j).toNat : Int)) ∧ Below a.heap.size a b := by
  have hbyte : ((UInt8.ofNat (i + 1)).toNat : Int) = (i : Int) + 1 := by rw [UInt8.toNat_ofNat', Nat.mod_eq_of_lt (by omega)]; omega
  have HMC : Hid (∀ (gB gP : Nat) (w : World), StAt w g1 k (keyP k key 54) → StAt w g2 k (keyP k key 92) → w.heap[gB]? = some (.cells #[.int .u8 0, .int .u8 0, .int .u8 0, .int .u8 ((UInt8.ofNat (i + 1)).toNat : Int)] (5 : TypeId) (0, 0)) → w.heap[gP]? = some (.cells #[.slice aS salt.length cS, .slice (some ⟨gB, 0, none⟩) 4 4] (22 : TypeId) (0, 0)) → ByAt w (.slice aS salt.length cS) salt → Calls Try.prog 34 #[.agg #[.pointer (some ⟨g1, 0, none⟩), .pointer (some ⟨g2, 0, none⟩)], .slice (some ⟨gP, 0, none⟩) 2 2] w fun e w' => ∃ g', e = .returned (.slice (some ⟨g', 0, none⟩) (k / 8) (k / 8)) ∧ ByAt w' (.slice (some ⟨g', 0, none⟩) (k / 8) (k / 8)) (stF k key salt (i + 1)) ∧ Below w.heap.size w w') := fun gB gP w h1 h2 h3 h4 h5 => by
    have := mac_any k hk (keyP k key 54) (keyP k key 92) (keyP_n k key 54) (keyP_c k hk key 54) (keyP_n k key 92) (keyP_c k hk key 92) g1 g2 [salt, [0, 0, 0, UInt8.ofNat (i + 1)]] (fun j => by
      match j with
      | 0 => exact hS
      | 1 => exact (by decide : 4 ≤ 4611686018427387904)
      | j + 2 => simp) (by simp) (.slice (some ⟨gP, 0, none⟩) 2 2) w h1 h2 ⟨gP, 0, 2, rfl, row_lt h4, fun j hj => by
        rcases (show j = 0 ∨ j = 1 by simp at hj; omega) with rfl | rfl
        · exact ⟨aS, cS, by rw [cell_of_row _ _ _ _ _ _ h4]; rfl, h5⟩
        · exact ⟨some ⟨gB, 0, none⟩, 4, by rw [cell_of_row _ _ _ _ _ _ h4]; rfl, .inr ⟨gB, 0, 4, rfl, row_lt h3, fun j hj => by
            rcases (show j = 0 ∨ j = 1 ∨ j = 2 ∨ j = 3 by simp at hj; omega) with rfl | rfl | rfl | rfl <;> (rw [cell_of_row _ _ _ _ _ _ h3]; rfl)⟩⟩⟩
    rw [show [salt, [0, 0, 0, UInt8.ofNat (i + 1)]].flatten = salt ++ [0, 0, 0, UInt8.ofNat (i + 1)] by simp] at this
    refine this.mono fun e w' ⟨g', q1, q2, q3, q4⟩ => ⟨g', q1, ?_, q4⟩
    have := rowZ_by q3
    rw [List.length_map, List.length_range] at this
    exact this
  have HFD : Hid (∀ (gF : Nat) (w : World), StAt w g1 k (keyP k key 54) → StAt w g2 k (keyP k key 92) → ByAt w (.slice (some ⟨gF, 0, none⟩) (k / 8) (k / 8)) (stF k key salt (i + 1)) → Calls Try.prog 41 #[.agg #[.pointer (some ⟨g1, 0, none⟩), .pointer (some ⟨g2, 0, none⟩)], .slice (some ⟨gF, 0, none⟩) (k / 8) (k / 8), .int .i64 ((r : Int) + 1)] w fun e w' => ∃ g, e = .returned (.slice (some ⟨g, 0, none⟩) (k / 8) (k / 8)) ∧ w.heap.size ≤ g ∧ RowZ w' g .u8 (k / 8) 5 (fun j => ((fdS k key (stF k key salt (i + 1)) r j).toNat : Int)) ∧ Below w.heap.size w w') := fun gF w h1 h2 h3 => folded_any k hk key _ (mkL_len _ _ _) r (by omega) g1 g2 gF w h1 h2 h3
  obtain ⟨hz, hsz⟩ := zero_of_info Try.zero75z
  have HI : Hid ((Try.prog.info? 63).map (·.size) = some (#[.pointer (some ⟨g1, 0, none⟩), .pointer (some ⟨g2, 0, none⟩)] : Array Value).size) := hsz
  have HK := hidD hK
  have S1 := hidD hs1
  have S2 := hidD hs2
  have YS := hidD hbS
  have RR := hidD hgR
  obtain ⟨cs, _⟩ := cell1 hgS
  have hi1 : (i : Int) + 1 ≤ 255 := by omega
  have hcast : ((i + 1 : Nat) : Int) = (i : Int) + 1 := by omega
  have h24 : ((i : Int) + 1) / 16777216 = 0 := by omega
  have h16 : ((i : Int) + 1) / 65536 = 0 := by omega
  have h8 : ((i : Int) + 1) / 256 = 0 := by omega
  rw [hcast]
  rw [hbyte] at HMC
  clear hK hs1 hs2 hgS hbS hgR hsz hcast hz hbyte
  generalize hMM : fdS k key (stF k key salt (i + 1)) r = MM at *
  clear hMM
  generalize hST : stF k key salt (i + 1) = ST at *
  clear hST
  generalize salt.length = LS at *
  generalize k / 8 = K8 at *
  go_enter Try.func40, Try.ntmps40
  go_wp2_with (refine wpList_load_row rfl 63 _ rfl gK rfl 63 #[.pointer (some ⟨g1, 0, none⟩), .pointer (some ⟨g2, 0, none⟩)] (0, 0) _ HK.out Try.underlying63 rfl HI.out ?_)
  go_at_call 34
  obtain ⟨t1, t2, t3, t4⟩ := two_blocks2 a #[.int .u8 0, .int .u8 0, .int .u8 0, .int .u8 ((i : Int) + 1)] #[.slice aS LS cS, .slice (some ⟨a.heap.size, 0, none⟩) 4 4] 5 22
  have V := hidD (HMC.out a.heap.size (a.heap.size + 1) _ (S1.out.next t3) (S2.out.next t3) t1 t2 (YS.out.next t3))
  have B1 := hidD t3
  clear t1 t2 t3 t4 HMC
  refine V.out.mono ?_
  rintro e w2 ⟨gA, rfl, hyA, hx2⟩
  have B2 := hidD (Below.next B1.out hx2)
  have V2 := hidD (HFD.out gA w2 (S1.out.next B2.out) (S2.out.next B2.out) hyA)
  have HK2 := hidD ((B2.out.block _ (row_lt HK.out)).trans HK.out)
  obtain ⟨cr, _⟩ := cell1 ((B2.out.block _ (row_lt RR.out)).trans RR.out)
  clear hyA hx2 V B1 cs
  go_wp2_with (refine wpList_load_row rfl 63 _ rfl gK rfl 63 #[.pointer (some ⟨g1, 0, none⟩), .pointer (some ⟨g2, 0, none⟩)] (0, 0) _ HK2.out Try.underlying63 rfl HI.out ?_)
  go_at_call 41
  refine V2.out.mono ?_
  rintro e w3 ⟨gN, rfl, hgN, hrN, hx3⟩
  have HF : Hid (a.heap.size ≤ gN ∧ RowZ w3 gN .u8 K8 5 (fun j => ((MM j).toNat : Int)) ∧ Below a.heap.size a w3) := ⟨Nat.le_trans B2.out.size hgN, hrN, Below.next B2.out hx3⟩
  clear hgN hrN hx3 V2
  go_wp2_with fail
  go_ret
  exact ⟨gN, rfl, HF.out⟩
/- what the closure of Stretch finds -/
def SsSt (k : Nat) (key salt : List UInt8) (r gK gS gR g1 g2 : Nat) (aS : Option Addr) (cS : Nat) (a : World) : Prop :=
  a.heap[gK]? = some (.cells #[.pointer (some ⟨g1, 0, none⟩), .pointer (some ⟨g2, 0, none⟩)] (63 : TypeId) (0, 0)) ∧ StAt a g1 k (keyP k key 54) ∧ StAt a g2 k (keyP k key 92) ∧ a.heap[gS]? = some (.cells #[.slice aS salt.length cS] (22 : TypeId) (0, 0)) ∧ ByAt a (.slice aS salt.length cS) salt ∧ a.heap[gR]? = some (.cells #[.int .i64 ((r : Int) + 1)] (3 : TypeId) (0, 0))
theorem joined_stretch (k : Nat) (hk : Kind k) (key salt : List UInt8) (hS : salt.length ≤ 4611686018427387904) (r : Nat) (hr : r ≤ 1023) (n : Nat) (hn : n ≤ 1024) (gK gS gR g1 g2 : Nat) (aS : Option Addr) (cS : Nat) (w : World) (h : SsSt k key salt r gK gS gR g1 g2 aS cS w) : Calls Try.prog 37 #[.int .i64 (n : Int), .func (.func 40) #[] #[.pointer (some ⟨gK, 0, none⟩), .pointer (some ⟨gS, 0, none⟩), .pointer (some ⟨gR, 0, none⟩)]] w fun e w' => ∃ g, e = .returned (.slice (some ⟨g, 0, none⟩) n n) ∧ w.heap.size ≤ g ∧ RowZ w' g .u8 n 5 (fun i => ((sbS (k / 8) (stT k key salt r) i).toNat : Int)) ∧ But gK w w' := by
  have hk8 : 28 ≤ k / 8 ∧ k / 8 ≤ 64 := by rcases hk with rfl | rfl | rfl | rfl <;> decide
  obtain ⟨q1, q2, q3, q4, q5, q6⟩ := h
  have o2 := by_off q5 (Nat.le_refl _)
  have l1 := row_lt q1
  have l2 := q2.lt
  have l3 := q3.lt
  have l4 := row_lt q4
  have l5 := row_lt q6
  refine joined38_any n (k / 8) (by omega) (by omega) hk8.2 (stT k key salt r) (fun i => stT_len _ _ _ _ _) _ _ _ gK w l1 (fun a _ => SsSt k key salt r gK gS gR g1 g2 aS cS a) (fun b hb => ?_) (fun i a b ha hsz hbut => ?_) (fun i hi a ha hsz => ?_)
  · exact ⟨(hb.block _ l1).trans q1, q2.next hb, q3.next hb, (hb.block _ l4).trans q4, q5.next hb, (hb.block _ l5).trans q6⟩
  · obtain ⟨h1, h2, h3, h4, h5, h6⟩ := ha
    exact ⟨(hbut.rest _ (row_lt h1) (by omega)).trans h1, h2.but hbut (by omega), h3.but hbut (by omega), (hbut.rest _ (row_lt h4) (by omega)).trans h4, h5.but' hbut o2, (hbut.rest _ (row_lt h6) (by omega)).trans h6⟩
  · obtain ⟨h1, h2, h3, h4, h5, h6⟩ := ha
    have hi255 : i < 255 := by
      rcases Nat.lt_or_ge i 255 with h | h
      · exact h
      · have := Nat.mul_le_mul h hk8.1; omega
    refine (stretch1_any k hk key salt hS r hr gK gS gR g1 g2 i hi255 aS cS a h1 h2 h3 h4 h5 h6).mono fun e b ⟨gN, p1, p2, p3, p4⟩ => ?_
    refine ⟨gN, k / 8, p1, Nat.le_refl _, p3.lt, fun j hj => ?_, ⟨(p4.block _ (row_lt h1)).trans h1, h2.next p4, h3.next p4, (p4.block _ (row_lt h4)).trans h4, h5.next p4, (p4.block _ (row_lt h6)).trans h6⟩, But.of p4 (by omega)⟩
    rw [p3.cell hj]
    show _ = some (Value.int .u8 (((stT k key salt r (i + 1)).getD j 0).toNat : Int))
    unfold stT
    simp [List.getD_eq_getElem?_getD, hj]
end Go.Proofs.Ytnldpofljeodiaa
/- What Stretch of sha answers. -/
namespace Go.Proofs.Ytnldpofljeodiaa
open Go.RowKit
set_option linter.unusedVariables false

theorem undef_boolS {b : Bool} (h : some undef = some (Value.bool b)) : False := by injection h with h1; cases h1
set_option maxRecDepth 100000 in
theorem newKeyed_no (x : Int) (h : x ≠ 224 ∧ x ≠ 256 ∧ x ≠ 384 ∧ x ≠ 512) (key : Value) (w : World) : Calls Try.prog 33 #[.int .i64 x, key] w fun e w' => e = .returned (.tuple #[.agg #[.pointer none, .pointer none], .int .i64 1]) ∧ Below w.heap.size w w' := by
  have HBG : Hid (∀ w, Calls Try.prog 30 #[.int .i64 x] w fun e w' => e = .returned (.tuple #[.pointer none, .int .i64 1]) ∧ w' = w) := fun w => begin_no x h w
  obtain ⟨hz, hsz⟩ := zero_of_info Try.zero75z
  have HI : Hid ((Try.prog.info? 63).map (·.size) = some 2) := hsz
  have R0 : Hid ((w.alloc (.cells #[.pointer none, .pointer none] (63 : TypeId))).heap[w.heap.size]? = some (.cells #[.pointer none, .pointer none] (63 : TypeId) (0, 0))) := heap_alloc_last _ _
  have B0 : Hid (∀ cs, Below w.heap.size w ((w.alloc (.cells #[.pointer none, .pointer none] (63 : TypeId))).setRow w.heap.size cs)) := fun cs => below_setRow ((Below.refl _ _).alloc (Nat.le_refl _) _) (Nat.le_refl _) cs
  clear h hsz
  go_enter Try.func33, Try.ntmps33
  go_wp2_with (first | (go_at_call 30; refine (HBG.out _).mono ?_; rintro e wx ⟨rfl, hx⟩; subst wx) | (refine wpList_store_row rfl 63 _ _ rfl w.heap.size #[.pointer none, .pointer none] rfl rfl 63 #[.pointer none, .pointer none] R0.out HI.out rfl (by simp [Value.oneCell']) ?_))
  refine bodyPost_ret (v := .tuple #[.agg #[.pointer none, .pointer none], .int .i64 1]) ?_ rfl ?_
  · exact res_pair (p := 4) (u := 5) (by kernel_rfl) _ _ w.heap.size _ rfl (setRow_heap _ _ _ _ _ _ R0.out) Try.underlying63 HI.out
  · exact ⟨rfl, B0.out _⟩
/- the walk up to the checks -/
set_option maxRecDepth 100000 in
set_option maxHeartbeats 1600000 in
theorem stretch_bad (x : Int) (key salt : List UInt8) (hKl : key.length ≤ 4611686018427387904) (aK aS : Option Addr) (cK cS : Nat) (rd z e1 : Int) (w : World) (hbK : ByAt w (.slice aK key.length cK) key)
    (h : (e1 = 1 ∧ x ≠ 224 ∧ x ≠ 256 ∧ x ≠ 384 ∧ x ≠ 512) ∨ (∃ k : Nat, Kind k ∧ x = (k : Int) ∧ ((e1 = 1 ∧ rd < 1) ∨ (e1 = 1 ∧ ¬ rd < 1 ∧ z < 0) ∨ (e1 = 3 ∧ ¬ rd < 1 ∧ ¬ z < 0 ∧ 1024 < rd) ∨ (e1 = 3 ∧ ¬ rd < 1 ∧ ¬ z < 0 ∧ ¬ 1024 < rd ∧ 1024 < z)))) : Calls Try.prog 20 #[.int .i64 x, .slice aK key.length cK, .slice aS salt.length cS, .int .i64 rd, .int .i64 z] w fun e w' => e = .returned (.tuple #[.slice none 0 0, .int .i64 e1]) ∧ Below w.heap.size w w' := by
  have HNK : Hid (∀ w, ByAt w (.slice aK key.length cK) key → Calls Try.prog 33 #[.int .i64 x, .slice aK key.length cK] w fun e w' => ∃ p1 p2 : Option Addr, e = .returned (.tuple #[.agg #[.pointer p1, .pointer p2], .int .i64 (if x ≠ 224 ∧ x ≠ 256 ∧ x ≠ 384 ∧ x ≠ 512 then 1 else 0)]) ∧ Below w.heap.size w w') := fun w hb => by
    rcases kind_or x with ⟨k, hk, rfl⟩ | hno
    · refine (newKeyed_any k hk key hKl aK cK w hb).mono fun e w' ⟨g1, g2, q1, _, _, _, _, _, q7⟩ => ⟨some ⟨g1, 0, none⟩, some ⟨g2, 0, none⟩, ?_, q7⟩
      rw [if_neg (by rcases hk with rfl | rfl | rfl | rfl <;> simp)]; exact q1
    · exact (newKeyed_no x hno _ w).mono fun e w' ⟨q1, q2⟩ => ⟨none, none, by rw [if_pos hno]; exact q1, q2⟩
  have HKN : Hid (∀ k : Nat, Kind k → ¬ ((k : Int) ≠ 224 ∧ (k : Int) ≠ 256 ∧ (k : Int) ≠ 384 ∧ (k : Int) ≠ 512)) := fun k hk => by rcases hk with rfl | rfl | rfl | rfl <;> simp
  obtain ⟨hz, hsz⟩ := zero_of_info Try.zero75z
  have HI : Hid (∀ x y : Value, (Try.prog.info? 63).map (·.size) = some (#[x, y] : Array Value).size) := fun _ _ => hsz
  obtain ⟨t1, t2, t3, t4⟩ := two_blocks2 w #[.slice aS salt.length cS] #[.int .i64 rd] 22 3
  have T2 := hidD t2
  have T3 := hidD t3
  have YK := hidD hbK
  have HH := hidD h
  clear hsz hbK t1 t2 t3 t4 h
  generalize key.length = LK at *
  generalize salt.length = LS at *
  generalize hER : (if x ≠ 224 ∧ x ≠ 256 ∧ x ≠ 384 ∧ x ≠ 512 then (1 : Int) else 0) = ER at *
  have HER := hidD hER
  clear hER
  go_enter Try.func20, Try.ntmps20
  go_wp2_with fail
  go_at_call 33
  refine (HNK.out _ (YK.out.next T3.out)).mono ?_
  rintro e w1 ⟨p1, p2, rfl, hx1⟩
  go_upto_region 2 with (refine wpList_store_row rfl 63 _ _ rfl w1.heap.size #[.pointer p1, .pointer p2] rfl rfl 63 #[.pointer none, .pointer none] (heap_alloc_last _ _) (HI.out _ _) rfl (by simp [Value.oneCell']) ?_)
  obtain ⟨W2, hW2⟩ : ∃ W2 : World, W2 = (w1.alloc (.cells #[.pointer none, .pointer none] (63 : TypeId))).setRow w1.heap.size #[.pointer p1, .pointer p2] := ⟨_, rfl⟩
  refine at_world hW2 ?_
  have hx2 : Below w1.heap.size w1 W2 := by rw [hW2]; exact below_setRow ((Below.refl _ _).alloc (Nat.le_refl _) _) (Nat.le_refl _) _
  have hx12 := Below.next hx1 hx2
  obtain ⟨cr, _⟩ := cell1 ((hx12.block _ (row_lt T2.out)).trans T2.out)
  have B2 := hidD (Below.next T3.out hx12)
  clear hx1 hx2 hx12 hW2 HNK YK T2 T3
  rcases HH.out with ⟨h1, hx⟩ | ⟨k, hk, hxk, hc⟩
  · have hE := HER.out
    rw [if_pos hx] at hE
    subst hE
    subst h1
    clear HER HH HKN hx
    go_wp2_with fail
    go_ret2
    exact ⟨rfl, B2.out⟩
  · have hE := HER.out
    rw [hxk, if_neg (HKN.out k hk)] at hE
    subst hE
    clear HER HH HKN
    rcases hc with ⟨h1, h2⟩ | ⟨h1, h2, h3⟩ | ⟨h1, h2, h3, h4⟩ | ⟨h1, h2, h3, h4, h5⟩
    all_goals
      subst h1
      go_wp2_with fail
      all_goals try (apply False.elim; apply undef_boolS; assumption)
      go_ret2
      exact ⟨rfl, B2.out⟩
set_option maxRecDepth 100000 in
set_option maxHeartbeats 1600000 in
theorem stretch_ok (k : Nat) (hk : Kind k) (key salt : List UInt8) (hKl : key.length ≤ 4611686018427387904) (hSl : salt.length ≤ 4611686018427387904) (r : Nat) (hr : r ≤ 1023) (n : Nat) (hn : n ≤ 1024) (aK aS : Option Addr) (cK cS : Nat) (w : World) (hbK : ByAt w (.slice aK key.length cK) key) (hbS : ByAt w (.slice aS salt.length cS) salt) : Calls Try.prog 20 #[.int .i64 (k : Int), .slice aK key.length cK, .slice aS salt.length cS, .int .i64 ((r : Int) + 1), .int .i64 (n : Int)] w fun e w' => ∃ g, e = .returned (.tuple #[.slice (some ⟨g, 0, none⟩) n n, .int .i64 0]) ∧ w.heap.size ≤ g ∧ RowZ w' g .u8 n 5 (fun i => ((sbS (k / 8) (stT k key salt r) i).toNat : Int)) ∧ Below w.heap.size w w' := by
  have HNK : Hid (∀ w, ByAt w (.slice aK key.length cK) key → Calls Try.prog 33 #[.int .i64 (k : Int), .slice aK key.length cK] w fun e w' => ∃ g1 g2, e = .returned (.tuple #[.agg #[.pointer (some ⟨g1, 0, none⟩), .pointer (some ⟨g2, 0, none⟩)], .int .i64 0]) ∧ w.heap.size ≤ g1 ∧ w.heap.size ≤ g2 ∧ g1 ≠ g2 ∧ StAt w' g1 k (keyP k key 54) ∧ StAt w' g2 k (keyP k key 92) ∧ Below w.heap.size w w') := fun w h => newKeyed_any k hk key hKl aK cK w h
  have HJN : Hid (∀ (gK gS gR g1 g2 : Nat) (w : World), SsSt k key salt r gK gS gR g1 g2 aS cS w → Calls Try.prog 37 #[.int .i64 (n : Int), .func (.func 40) #[] #[.pointer (some ⟨gK, 0, none⟩), .pointer (some ⟨gS, 0, none⟩), .pointer (some ⟨gR, 0, none⟩)]] w fun e w' => ∃ g, e = .returned (.slice (some ⟨g, 0, none⟩) n n) ∧ w.heap.size ≤ g ∧ RowZ w' g .u8 n 5 (fun i => ((sbS (k / 8) (stT k key salt r) i).toNat : Int)) ∧ But gK w w') := fun gK gS gR g1 g2 w h => joined_stretch k hk key salt hSl r hr n hn gK gS gR g1 g2 aS cS w h
  obtain ⟨hz, hsz⟩ := zero_of_info Try.zero75z
  have HI : Hid (∀ x y : Value, (Try.prog.info? 63).map (·.size) = some (#[x, y] : Array Value).size) := fun _ _ => hsz
  obtain ⟨t1, t2, t3, t4⟩ := two_blocks2 w #[.slice aS salt.length cS] #[.int .i64 ((r : Int) + 1)] 22 3
  have T1 := hidD t1
  have T2 := hidD t2
  have T3 := hidD t3
  have YK := hidD hbK
  have YS := hidD hbS
  have HSS : Hid (∀ (gK gS gR g1 g2 : Nat) (a : World), a.heap[gK]? = some (.cells #[.pointer (some ⟨g1, 0, none⟩), .pointer (some ⟨g2, 0, none⟩)] (63 : TypeId) (0, 0)) → StAt a g1 k (keyP k key 54) → StAt a g2 k (keyP k key 92) → a.heap[gS]? = some (.cells #[.slice aS salt.length cS] (22 : TypeId) (0, 0)) → ByAt a (.slice aS salt.length cS) salt → a.heap[gR]? = some (.cells #[.int .i64 ((r : Int) + 1)] (3 : TypeId) (0, 0)) → SsSt k key salt r gK gS gR g1 g2 aS cS a) := fun gK gS gR g1 g2 a q1 q2 q3 q4 q5 q6 => ⟨q1, q2, q3, q4, q5, q6⟩
  clear hsz hbK hbS t1 t2 t3 t4
  generalize hSB : sbS (k / 8) (stT k key salt r) = SB at *
  clear hSB
  generalize key.length = LK at *
  generalize salt.length = LS at *
  go_enter Try.func20, Try.ntmps20
  go_wp2_with fail
  go_at_call 33
  refine (HNK.out _ (YK.out.next T3.out)).mono ?_
  rintro e w1 ⟨g1, g2, rfl, hg1, hg2, hne, hs1, hs2, hx1⟩
  go_upto_region 2 with (refine wpList_store_row rfl 63 _ _ rfl w1.heap.size #[.pointer (some ⟨g1, 0, none⟩), .pointer (some ⟨g2, 0, none⟩)] rfl rfl 63 #[.pointer none, .pointer none] (heap_alloc_last _ _) (HI.out _ _) rfl (by simp [Value.oneCell']) ?_)
  obtain ⟨W2, hW2⟩ : ∃ W2 : World, W2 = (w1.alloc (.cells #[.pointer none, .pointer none] (63 : TypeId))).setRow w1.heap.size #[.pointer (some ⟨g1, 0, none⟩), .pointer (some ⟨g2, 0, none⟩)] := ⟨_, rfl⟩
  refine at_world hW2 ?_
  have hx2 : Below w1.heap.size w1 W2 := by rw [hW2]; exact below_setRow ((Below.refl _ _).alloc (Nat.le_refl _) _) (Nat.le_refl _) _
  have R2 : W2.heap[w1.heap.size]? = some (.cells #[.pointer (some ⟨g1, 0, none⟩), .pointer (some ⟨g2, 0, none⟩)] (63 : TypeId) (0, 0)) := by rw [hW2]; exact setRow_heap _ _ _ _ _ _ (heap_alloc_last _ _)
  have hx12 := Below.next hx1 hx2
  obtain ⟨cr, _⟩ := cell1 ((hx12.block _ (row_lt T2.out)).trans T2.out)
  have B2 := hidD (Below.next T3.out hx12)
  have V2 := hidD (HJN.out w1.heap.size w.heap.size (w.heap.size + 1) g1 g2 W2 (HSS.out _ _ _ _ _ _ R2 (hs1.next hx2) (hs2.next hx2) ((hx12.block _ (row_lt T1.out)).trans T1.out) (YS.out.next (Below.next T3.out hx12)) ((hx12.block _ (row_lt T2.out)).trans T2.out)))
  have G2 : Hid (w.heap.size ≤ w1.heap.size) := (Below.next T3.out hx1).size
  clear hs1 hs2 hx1 hx2 hx12 hg1 hg2 hne hW2 HNK YK YS T1 T2 T3 R2 HJN HSS
  generalize hgR : w1.heap.size = gK at *
  clear hgR
  go_wp2_with fail
  all_goals try (apply False.elim; apply undef_boolS; assumption)
  go_at_call 37
  refine V2.out.mono ?_
  rintro e w4 ⟨g4, rfl, hg4, hr4, hx4⟩
  have HF : Hid (w.heap.size ≤ g4 ∧ RowZ w4 g4 .u8 n 5 (fun i => ((SB i).toNat : Int)) ∧ Below w.heap.size w w4) := ⟨Nat.le_trans B2.out.size hg4, hr4, B2.out.trans (hx4.bel.mono G2.out)⟩
  clear hg4 hr4 hx4 V2
  go_wp2_with fail
  go_ret2
  exact ⟨g4, rfl, HF.out⟩
end Go.Proofs.Ytnldpofljeodiaa
