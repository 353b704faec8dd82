/- What folded of sha answers. -/
import Derived.Test.YtjpcndhdlbkilaaJn2
namespace Go.Proofs.Ytjpcndhdlbkilaa
open Go.RowKit
set_option linter.unusedVariables false

/- the codes one behind the other, and their exclusive or -/
def fdU (k : Nat) (key first : List UInt8) : Nat → List UInt8
  | 0 => first
  | j + 1 => mkL k key (fdU k key first j)
def fdS (k : Nat) (key first : List UInt8) : Nat → Nat → UInt8
  | 0, i => first.getD i 0
  | j + 1, i => fdS k key first j i ^^^ (fdU k key first (j + 1)).getD i 0
theorem fdU_len (k : Nat) (key first : List UInt8) (h : first.length = k / 8) : ∀ j, (fdU k key first j).length = k / 8
  | 0 => h
  | j + 1 => mkL_len _ _ _
theorem u8_xor_b (x y : UInt8) : bits .xor .u8 (x.toNat : Int) (y.toNat : Int) = ((x ^^^ y).toNat : Int) := by
  have h1 := x.toNat_lt
  have h2 := y.toNat_lt
  show IntKind.u8.wrap ((BitVec.ofInt 8 (x.toNat : Int) ^^^ BitVec.ofInt 8 (y.toNat : Int)).toNat : Int) = _
  rw [BitVec.toNat_xor]
  have e : ∀ z : UInt8, (BitVec.ofInt 8 (z.toNat : Int)).toNat = z.toNat := fun z => by
    have := z.toNat_lt
    simp
  rw [e, e, UInt8.toNat_xor, IntKind.wrap_u8]
  have : x.toNat ^^^ y.toNat < 2 ^ 8 := Nat.xor_lt_two_pow h1 h2
  omega
set_option maxRecDepth 100000 in
set_option maxHeartbeats 3200000 in
theorem folded_any (k : Nat) (hk : Kind k) (key first : List UInt8) (hfl : first.length = k / 8) (r : Nat) (hr : r ≤ 2048) (g1 g2 gF : Nat) (w : World) (hs1 : StAt w g1 k (keyP k key 54)) (hs2 : StAt w g2 k (keyP k key 92)) (hF : ByAt w (.slice (some ⟨gF, 0, none⟩) (k / 8) (k / 8)) first) : Calls Try.prog 39 #[.agg #[.pointer (some ⟨g1, 0, none⟩), .pointer (some ⟨g2, 0, none⟩)], .slice (some ⟨gF, 0, none⟩) (k / 8) (k / 8), .int .i64 ((r : Int) + 1)] w fun e w' => ∃ g, e = .returned (.slice (some ⟨g, 0, none⟩) (k / 8) (k / 8)) ∧ w.heap.size ≤ g ∧ RowZ w' g .u8 (k / 8) 5 (fun i => ((fdS k key first r i).toNat : Int)) ∧ Below w.heap.size w w' := by
  have hk8 : 0 < k / 8 ∧ k / 8 ≤ 64 := by rcases hk with rfl | rfl | rfl | rfl <;> decide
  have HMC : Hid (∀ (j gS gA : Nat) (w : World), StAt w g1 k (keyP k key 54) → StAt w g2 k (keyP k key 92) → w.heap[gS]? = some (.cells #[.slice (some ⟨gA, 0, none⟩) (k / 8) (k / 8)] (22 : TypeId) (0, 0)) → ByAt w (.slice (some ⟨gA, 0, none⟩) (k / 8) (k / 8)) (fdU k key first j) → Calls Try.prog 35 #[.agg #[.pointer (some ⟨g1, 0, none⟩), .pointer (some ⟨g2, 0, none⟩)], .slice (some ⟨gS, 0, none⟩) 1 1] w fun e w' => ∃ g', e = .returned (.slice (some ⟨g', 0, none⟩) (k / 8) (k / 8)) ∧ w.heap.size ≤ g' ∧ ByAt w' (.slice (some ⟨g', 0, none⟩) (k / 8) (k / 8)) (fdU k key first (j + 1)) ∧ Below w.heap.size w w') := fun j gS gA w h1 h2 h3 h4 => by
    have hl := fdU_len k key first hfl j
    have := mac_any k hk (keyP k key 54) (keyP k key 92) (keyP_n k key 54) (keyP_c k hk key 54) (keyP_n k key 92) (keyP_c k hk key 92) g1 g2 [fdU k key first j] (fun q => by
      cases q with
      | zero => show (fdU k key first j).length ≤ _; rw [hl]; omega
      | succ q => simp) (by simp) (.slice (some ⟨gS, 0, none⟩) 1 1) w h1 h2 ⟨gS, 0, 1, rfl, row_lt h3, fun q hq => by
        obtain rfl : q = 0 := by simp at hq; exact hq
        exact ⟨some ⟨gA, 0, none⟩, k / 8, by rw [cell_of_row _ _ _ _ _ _ h3]; show _ = some (Value.slice (some ⟨gA, 0, none⟩) (fdU k key first j).length (k / 8)); rw [hl]; rfl, by show ByAt w (.slice _ (fdU k key first j).length _) (fdU k key first j); rw [hl]; exact h4⟩⟩
    rw [show [fdU k key first j].flatten = fdU k key first j by simp] at this
    refine this.mono fun e w' ⟨g', q1, q2, q3, q4⟩ => ⟨g', q1, q2, ?_, q4⟩
    have := rowZ_by q3
    rw [List.length_map, List.length_range] at this
    exact this
  have HFL := hidD (fdU_len k key first hfl)
  have HFS : Hid (∀ j i, fdS k key first (j + 1) i = fdS k key first j i ^^^ (fdU k key first (j + 1)).getD i 0) := fun _ _ => rfl
  have HF0 : Hid (∀ i, fdS k key first 0 i = first.getD i 0) := fun _ => rfl
  have HU0 : Hid (fdU k key first 0 = first) := rfl
  have W1 : Hid ((w.alloc (.cells #[.pointer (some ⟨g1, 0, none⟩), .pointer (some ⟨g2, 0, none⟩)] (75 : TypeId))).heap[w.heap.size]? = some (.cells #[.pointer (some ⟨g1, 0, none⟩), .pointer (some ⟨g2, 0, none⟩)] (75 : TypeId) (0, 0))) := heap_alloc_last _ _
  have B1 : Hid (Below w.heap.size w (w.alloc (.cells #[.pointer (some ⟨g1, 0, none⟩), .pointer (some ⟨g2, 0, none⟩)] (75 : TypeId)))) := (Below.refl _ _).alloc (Nat.le_refl _) _
  obtain ⟨hz, hsz⟩ := zero_of_info Try.zero75z
  have HI : Hid ((Try.prog.info? 75).map (·.size) = some (#[.pointer (some ⟨g1, 0, none⟩), .pointer (some ⟨g2, 0, none⟩)] : Array Value).size) := hsz
  have hi5 : (Try.prog.info? 5).map (·.size) = some 1 := by obtain ⟨i0, hi, _, h1, _⟩ := info_parts Try.info5; rw [hi]; simp [h1]
  have S0 := hidD hs1
  have T0 := hidD hs2
  have Y0 := hidD hF
  clear hs1 hs2 hF hsz hz
  generalize hK8 : k / 8 = K8 at *
  clear hK8
  generalize hFU : fdU k key first = FU at *
  clear hFU
  generalize hFS : fdS k key first = FS at *
  clear hFS
  go_enter Try.func39, Try.ntmps39
  go_upto_region 1 with fail
  obtain ⟨WA, hWA⟩ : ∃ WA : World, WA = w.alloc (.cells #[.pointer (some ⟨g1, 0, none⟩), .pointer (some ⟨g2, 0, none⟩)] (75 : TypeId)) := ⟨_, rfl⟩
  refine at_world hWA ?_
  rw [← hWA] at W1 B1
  clear hWA
  go_upto_region 2 with (at_make; refine wpList_makeB WA rfl _ _ rfl .i64 .i64 (K8 : Int) (K8 : Int) K8 rfl rfl rfl rfl (by omega) ?_; intro w2 hr2 hx2)
  have M2 := hidD hr2.out
  have R2 := hidD ((hx2.block _ (row_lt W1.out)).trans W1.out)
  have B2 := hidD (Below.next B1.out hx2)
  have Y2 := hidD (Y0.out.next B2.out)
  have GM : Hid (w.heap.size < WA.heap.size) := row_lt W1.out
  have SRC : Hid (∀ j, j < K8 → w2.cell? ⟨gF, 0 + j, none⟩ = some (.int .u8 ((first.getD j 0).toNat : Int))) := by
    have h := Y2.out
    rw [← hfl] at h
    obtain ⟨g', o', e1, e2, e3⟩ := h.src (by omega)
    simp only [Option.some.injEq, Addr.mk.injEq] at e1
    obtain ⟨rfl, rfl, _⟩ := e1
    exact fun j hj => e3 j (by omega)
  clear hr2 hx2 W1 B1
  generalize hgM : WA.heap.size = gM at *
  clear hgM
  go_upto_region 3 with (refine wpList_copy_Z rfl _ _ 22 22 rfl 5 Try.underlying22 hi5 (some ⟨gM, 0, none⟩) (some ⟨gF, 0, none⟩) K8 K8 K8 K8 rfl rfl .u8 gM 0 K8 K8 (fun _ => 0) (fun i => ((first.getD i 0).toNat : Int)) 5 M2.out (by show K8 = min K8 K8; omega) (fun h0 => ⟨rfl, gF, 0, rfl, SRC.out⟩) (by omega) ?_; intro w3 hr3 hx3)
  have M3 : Hid (RowZ w3 gM .u8 K8 5 (fun i => ((FS 0 i).toNat : Int))) := hr3.out.congr fun i hi => by rw [if_pos ⟨Nat.zero_le _, by omega⟩, Nat.sub_zero, HF0.out]
  have R3 := hidD ((hx3.rest _ (row_lt R2.out) (by have := GM.out; omega)).trans R2.out)
  have B3 : Hid (Below w.heap.size w w3) := B2.out.trans (hx3.bel.mono (Nat.le_of_lt GM.out))
  have Y3 : Hid (ByAt w3 (.slice (some ⟨gF, 0, none⟩) K8 K8) (FU 0)) := by rw [HU0.out]; exact Y0.out.next B3.out
  have LF : Hid (gF < w.heap.size) := by
    have h := Y0.out
    rw [← hfl] at h
    obtain ⟨g', o', e1, e2, e3⟩ := h.src (by omega)
    simp only [Option.some.injEq, Addr.mk.injEq] at e1
    obtain ⟨rfl, rfl, _⟩ := e1
    exact e2
  clear hr3 hx3 M2 R2 B2 Y2 SRC
  go_wp2_with fail
  go_loopw [8, 20] (fun lv iv wr => ∃ j gA : Nat, j ≤ r ∧ iv = .int .i64 (j : Int) ∧ lv = .slice (some ⟨gA, 0, none⟩) K8 K8 ∧ Hid (gA ≠ gM) ∧ ByAt wr (.slice (some ⟨gA, 0, none⟩) K8 K8) (FU j) ∧ RowZ wr gM .u8 K8 5 (fun i => ((FS j i).toNat : Int)) ∧ But gM w3 wr) (fun _ iv _ => r - (intOf iv).toNat)
  case atStart => exact ⟨0, gF, Nat.zero_le _, rfl, rfl, (by show gF ≠ gM; have := LF.out; have := GM.out; omega), Y3.out, M3.out, But.refl _ _⟩
  case round =>
    clear Y3 M3
    obtain ⟨j, gA, hj, rfl, rfl, HNE, hyA, hrow, hbut⟩ := hrel
    have YA := hidD hyA
    have ROW := hidD hrow
    have BUT := hidD hbut
    clear hyA hrow hbut
    have RK : Hid (wr.heap[w.heap.size]? = some (.cells #[.pointer (some ⟨g1, 0, none⟩), .pointer (some ⟨g2, 0, none⟩)] (75 : TypeId) (0, 0))) := (BUT.out.rest _ (row_lt R3.out) (by have := GM.out; omega)).trans R3.out
    have S1 : Hid (StAt wr g1 k (keyP k key 54)) := (S0.out.next B3.out).but BUT.out (by have := S0.out.lt; have := GM.out; omega)
    have T1 : Hid (StAt wr g2 k (keyP k key 92)) := (T0.out.next B3.out).but BUT.out (by have := T0.out.lt; have := GM.out; omega)
    obtain ⟨wo, hwo⟩ : ∃ wo, wo = wr := ⟨_, rfl⟩
    subst hwo
    by_cases hlt : j < r
    · have hlti : (j : Int) < (r : Int) := by omega
      go_wp2_with (refine wpList_load_row rfl 75 _ rfl w.heap.size rfl 75 #[.pointer (some ⟨g1, 0, none⟩), .pointer (some ⟨g2, 0, none⟩)] (0, 0) _ RK.out Try.underlying75 rfl HI.out ?_)
      go_at_call 35
      have hx4 : Below wo.heap.size wo (wo.alloc (.cells #[.slice (some ⟨gA, 0, none⟩) K8 K8] (22 : TypeId))) := (Below.refl _ _).alloc (Nat.le_refl _) _
      have V4 := hidD (HMC.out j wo.heap.size gA (wo.alloc (.cells #[.slice (some ⟨gA, 0, none⟩) K8 K8] (22 : TypeId))) (S1.out.next hx4) (T1.out.next hx4) (heap_alloc_last _ _) (YA.out.next hx4))
      have X4 := hidD hx4
      clear hx4
      refine V4.out.mono ?_
      rintro e w5 ⟨gN, rfl, hgN, hyN, hx5⟩
      have X5 := hidD (Below.next X4.out hx5)
      have R5 := hidD (ROW.out.next X5.out)
      have N5 : Hid (gN ≠ gM) := by have := ROW.out.lt; have := X4.out.size; show gN ≠ gM; omega
      have B5 : Hid (But gM w3 w5) := BUT.out.trans (But.of X5.out (Nat.le_of_lt ROW.out.lt))
      have Y5 := hidD hyN
      have SRC : Hid (gN < w5.heap.size ∧ ∀ q, q < K8 → w5.cell? ⟨gN, 0 + q, none⟩ = some (.int .u8 (((FU (j + 1)).getD q 0).toNat : Int))) := by
        have h := hyN
        rw [← HFL.out (j + 1)] at h
        obtain ⟨g', o', e1, e2, e3⟩ := h.src (by rw [HFL.out]; omega)
        simp only [Option.some.injEq, Addr.mk.injEq] at e1
        obtain ⟨rfl, rfl, _⟩ := e1
        exact ⟨e2, fun q hq => e3 q (by rw [HFL.out]; exact hq)⟩
      have R5' : Hid (RowZ w5 gM .u8 K8 5 (fun q => ((if q < 0 then FS (j + 1) q else FS j q : UInt8).toNat : Int))) := R5.out.congr fun q _ => by rw [if_neg (Nat.not_lt_zero _)]
      clear hgN hyN hx5 V4 X4 X5 R5 ROW BUT YA S1 T1 RK
      go_wp2_with fail
      go_loopw [28] (fun iv wr => ∃ q : Nat, q ≤ K8 ∧ iv = .int .i64 (q : Int) ∧ RowZ wr gM .u8 K8 5 (fun i => ((if i < q then FS (j + 1) i else FS j i : UInt8).toNat : Int)) ∧ But gM w5 wr) (fun iv _ => K8 - (intOf iv).toNat)
      case atStart => exact ⟨0, Nat.zero_le _, rfl, R5'.out, But.refl _ _⟩
      case round =>
        clear R5'
        obtain ⟨q, hq, rfl, hrow, hbut⟩ := hrel
        by_cases hqlt : q < K8
        · have hqlti : (q : Int) < (K8 : Int) := by omega
          have c0 : wr.cell? ⟨gN, q, none⟩ = some (.int .u8 (((FU (j + 1)).getD q 0).toNat : Int)) := by
            have h := SRC.out.2 q hqlt
            rw [Nat.zero_add] at h
            rw [hbut.cell SRC.out.1 N5.out]; exact h
          have c1 : wr.cell? ⟨gM, q, none⟩ = some (.int .u8 ((FS j q).toNat : Int)) := by rw [hrow.cell hqlt, if_neg (Nat.lt_irrefl _)]
          have c2 := hrow.frozen q
          have hx : bits .xor .u8 ((FS j q).toNat : Int) (((FU (j + 1)).getD q 0).toNat : Int) = ((FS (j + 1) q).toNat : Int) := by rw [u8_xor_b, HFS.out]
          have HN : Hid (RowZ (wr.setCell ⟨gM, q, none⟩ (.int .u8 ((FS (j + 1) q).toNat : Int))) gM .u8 K8 5 (fun i => ((if i < q + 1 then FS (j + 1) i else FS j i : UInt8).toNat : Int))) := (hrow.set hqlt _).congr fun i _ => by
            by_cases h1 : i = q
            · subst h1; rw [if_pos rfl, if_pos (by omega)]
            · rw [if_neg h1]
              by_cases h2 : i < q
              · rw [if_pos h2, if_pos (by omega)]
              · rw [if_neg h2, if_neg (by omega)]
          have HB : Hid (But gM w5 (wr.setCell ⟨gM, q, none⟩ (.int .u8 ((FS (j + 1) q).toNat : Int)))) := hbut.put _ _
          clear hrow hbut
          generalize ((FS (j + 1) q).toNat : Int) = Z1 at *
          generalize ((FS j q).toNat : Int) = Z0 at *
          generalize (((FU (j + 1)).getD q 0).toNat : Int) = Z2 at *
          go_wp2_with fail
          go_roundw
          case rel =>
            first
            | exact ⟨q + 1, by omega, by go_num, HN.out, HB.out⟩
            | ((repeat apply Exists.intro); refine And.intro ?_ rfl; exact ⟨q + 1, by omega, by go_num, HN.out, HB.out⟩)
          case measure => simp [intOf]; omega
        · obtain rfl : q = K8 := by omega
          have hqlti : ¬ (q : Int) < (q : Int) := by omega
          have HN : Hid (RowZ wr gM .u8 q 5 (fun i => ((FS (j + 1) i).toNat : Int))) := hrow.congr fun i hi => by rw [if_pos hi]
          have HB : Hid (But gM w3 wr) := B5.out.trans hbut
          have HY : Hid (ByAt wr (.slice (some ⟨gN, 0, none⟩) q q) (FU (j + 1))) := Y5.out.but' hbut (fun _ h o n c e => by simp only [Value.slice.injEq, Option.some.injEq, Addr.mk.injEq] at e; have := N5.out; omega)
          clear hrow hbut
          go_wp2_with fail
          go_roundw
          case rel =>
            first
            | exact ⟨j + 1, gN, by omega, by go_num, rfl, N5, HY.out, HN.out, HB.out⟩
            | ((repeat apply Exists.intro); refine And.intro ?_ rfl; exact ⟨j + 1, gN, by omega, by go_num, rfl, N5, HY.out, HN.out, HB.out⟩)
          case measure => simp [intOf]; omega
    · obtain rfl : j = r := by omega
      have hlti : ¬ (j : Int) < (j : Int) := by omega
      have HF : Hid (w.heap.size ≤ gM ∧ RowZ wo gM .u8 K8 5 (fun i => ((FS j i).toNat : Int)) ∧ Below w.heap.size w wo) := ⟨Nat.le_of_lt GM.out, ROW.out, B3.out.trans (BUT.out.bel.mono (Nat.le_of_lt GM.out))⟩
      go_wp2_with fail
      go_ret
      exact ⟨gM, rfl, HF.out⟩
end Go.Proofs.Ytjpcndhdlbkilaa
