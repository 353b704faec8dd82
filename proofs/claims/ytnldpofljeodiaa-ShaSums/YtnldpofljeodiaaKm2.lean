/- What mac of sha answers. -/
import Derived.Test.YtnldpofljeodiaaKm1
namespace Go.Proofs.Ytnldpofljeodiaa
open Go.RowKit
set_option linter.unusedVariables false

theorem newKeyed_any (k : Nat) (hk : Kind k) (L : List UInt8) (hL : L.length ≤ 4611686018427387904) (a : Option Addr) (cap : Nat) (w : World) (hb : ByAt w (.slice a L.length cap) L) : Calls Try.prog 33 #[.int .i64 (k : Int), .slice a L.length cap] w fun e w' => ∃ g1 g2, e = .returned (.tuple #[.agg #[.pointer (some ⟨g1, 0, none⟩), .pointer (some ⟨g2, 0, none⟩)], .int .i64 0]) ∧ w.heap.size ≤ g1 ∧ w.heap.size ≤ g2 ∧ g1 ≠ g2 ∧ StAt w' g1 k (keyP k L 54) ∧ StAt w' g2 k (keyP k L 92) ∧ Below w.heap.size w w' := by
  by_cases h : blkN k < L.length
  · exact newKeyedL k hk L hL h a cap w hb
  · exact newKeyedS k hk L hL h a cap w hb
/- rows of bytes: the parts of a message -/
def PartsAt (w : World) (sl : Value) (ps : List (List UInt8)) : Prop := ∃ g off cap, sl = .slice (some ⟨g, off, none⟩) ps.length cap ∧ g < w.heap.size ∧ ∀ j, j < ps.length → ∃ a c, w.cell? ⟨g, off + j, none⟩ = some (.slice a (ps.getD j []).length c) ∧ ByAt w (.slice a (ps.getD j []).length c) (ps.getD j [])
def mcP (k : Nat) (si so : Ps) (M : List UInt8) : Nat → UInt8 := dgP k (feedP k so (dgL k (feedP k si M)))
theorem flat_snoc (k : Nat) (s : Ps) (ps : List (List UInt8)) (i : Nat) (h : i < ps.length) : feedP k s (ps.take (i + 1)).flatten = feedP k (feedP k s (ps.take i).flatten) (ps.getD i []) := by
  rw [List.take_add_one, List.flatten_append, feed_app, List.getElem?_eq_getElem h, List.getD_eq_getElem?_getD, List.getElem?_eq_getElem h]
  simp
set_option maxRecDepth 100000 in
set_option maxHeartbeats 3200000 in
theorem mac_any (k : Nat) (hk : Kind k) (si so : Ps) (hin : si.n < 18446744073709551616) (hic : ∀ j, si.c j < mdK k) (hon : so.n < 18446744073709551616) (hoc : ∀ j, so.c j < mdK k) (gi go : Nat) (ps : List (List UInt8)) (hps : ∀ j, (ps.getD j []).length ≤ 4611686018427387904) (hpl : ps.length ≤ 1000) (sl : Value) (w : World) (hsi : StAt w gi k si) (hso : StAt w go k so) (hp : PartsAt w sl ps) : Calls Try.prog 34 #[.agg #[.pointer (some ⟨gi, 0, none⟩), .pointer (some ⟨go, 0, none⟩)], sl] w fun e w' => ∃ g', e = .returned (.slice (some ⟨g', 0, none⟩) (k / 8) (k / 8)) ∧ w.heap.size ≤ g' ∧ RowZ w' g' .u8 (k / 8) 5 (fun i => ((mcP k si so ps.flatten i).toNat : Int)) ∧ Below w.heap.size w w' := by
  have HCI : Hid (∀ w, StAt w gi k si → Calls Try.prog 32 #[.pointer (some ⟨gi, 0, none⟩)] w fun e w' => ∃ g', e = .returned (.pointer (some ⟨g', 0, none⟩)) ∧ w.heap.size ≤ g' ∧ StAt w' g' k si ∧ Below w.heap.size w w') := fun w h => clone_any k gi si w h
  have HCO : Hid (∀ w, StAt w go k so → Calls Try.prog 32 #[.pointer (some ⟨go, 0, none⟩)] w fun e w' => ∃ g', e = .returned (.pointer (some ⟨g', 0, none⟩)) ∧ w.heap.size ≤ g' ∧ StAt w' g' k so ∧ Below w.heap.size w w') := fun w h => clone_any k go so w h
  have HWP : Hid (∀ (i : Nat) (g : Nat) (a : Option Addr) (c : Nat) (w : World), StAt w g k (feedP k si (ps.take i).flatten) → ByAt w (.slice a (ps.getD i []).length c) (ps.getD i []) → ((ps.getD i []) ≠ [] → Off (.slice a (ps.getD i []).length c) g) → Calls Try.prog 26 #[.pointer (some ⟨g, 0, none⟩), .slice a (ps.getD i []).length c] w fun e w' => e = .returned (.int .i64 ((ps.getD i []).length : Int)) ∧ StAt w' g k (feedP k (feedP k si (ps.take i).flatten) (ps.getD i [])) ∧ But g w w') := fun i g a c w h1 h2 h3 => write_any k hk g _ (feed_nlt k si hin _) (feed_lt k _ si hic) _ (hps i) a c w h1 h2 h3
  have HFS : Hid (∀ i, i < ps.length → feedP k si (ps.take (i + 1)).flatten = feedP k (feedP k si (ps.take i).flatten) (ps.getD i [])) := fun i h => flat_snoc k si ps i h
  have HSI : Hid (∀ (g : Nat) (w : World), StAt w g k (feedP k si ps.flatten) → Calls Try.prog 28 #[.pointer (some ⟨g, 0, none⟩)] w fun e w' => ∃ g', e = .returned (.slice (some ⟨g', 0, none⟩) (dgL k (feedP k si ps.flatten)).length (dgL k (feedP k si ps.flatten)).length) ∧ w.heap.size ≤ g' ∧ ByAt w' (.slice (some ⟨g', 0, none⟩) (dgL k (feedP k si ps.flatten)).length (dgL k (feedP k si ps.flatten)).length) (dgL k (feedP k si ps.flatten)) ∧ Below w.heap.size w w') := fun g w h => (stSum_any k hk g _ (feed_nlt k si hin _) (feed_lt k _ si hic) w h).mono fun e w' ⟨g', h1, h2, h3, h4⟩ => ⟨g', by rw [dgL_len]; exact h1, h2, by rw [dgL_len]; exact dg_by h3, h4⟩
  have HWO : Hid (∀ (g g0 : Nat) (w : World), g0 ≠ g → StAt w g k so → ByAt w (.slice (some ⟨g0, 0, none⟩) (dgL k (feedP k si ps.flatten)).length (dgL k (feedP k si ps.flatten)).length) (dgL k (feedP k si ps.flatten)) → Calls Try.prog 26 #[.pointer (some ⟨g, 0, none⟩), .slice (some ⟨g0, 0, none⟩) (dgL k (feedP k si ps.flatten)).length (dgL k (feedP k si ps.flatten)).length] w fun e w' => e = .returned (.int .i64 ((dgL k (feedP k si ps.flatten)).length : Int)) ∧ StAt w' g k (feedP k so (dgL k (feedP k si ps.flatten))) ∧ But g w w') := fun g g0 w hne h1 h2 => write_any k hk g so hon hoc _ (by rw [dgL_len]; have := hk.le; omega) _ _ w h1 h2 (fun _ h o n c e => by simp only [Value.slice.injEq, Option.some.injEq, Addr.mk.injEq] at e; omega)
  have HSO : Hid (∀ (g : Nat) (w : World), StAt w g k (feedP k so (dgL k (feedP k si ps.flatten))) → Calls Try.prog 28 #[.pointer (some ⟨g, 0, none⟩)] w fun e w' => ∃ g', e = .returned (.slice (some ⟨g', 0, none⟩) (k / 8) (k / 8)) ∧ w.heap.size ≤ g' ∧ RowZ w' g' .u8 (k / 8) 5 (fun i => ((mcP k si so ps.flatten i).toNat : Int)) ∧ Below w.heap.size w w') := fun g w h => stSum_any k hk g _ (feed_nlt k so hon _) (feed_lt k _ so hoc) w h
  obtain ⟨gp, off, cap, rfl, hgp, hpc⟩ := hp
  have HPC := hidD hpc
  have HGP := hidD hgp
  have W1 : Hid ((w.alloc (.cells #[.pointer (some ⟨gi, 0, none⟩), .pointer (some ⟨go, 0, none⟩)] (63 : TypeId))).heap[w.heap.size]? = some (.cells #[.pointer (some ⟨gi, 0, none⟩), .pointer (some ⟨go, 0, none⟩)] (63 : TypeId) (0, 0))) := heap_alloc_last _ _
  have B1 : Hid (Below w.heap.size w (w.alloc (.cells #[.pointer (some ⟨gi, 0, none⟩), .pointer (some ⟨go, 0, none⟩)] (63 : TypeId)))) := (Below.refl _ _).alloc (Nat.le_refl _) _
  have HSI0 := hidD hsi
  have HSO0 := hidD hso
  clear hpc hgp hsi hso hps hic hoc
  generalize hFI : feedP k si ps.flatten = FI at *
  have HFI := hidD hFI
  clear hFI
  generalize hDL : dgL k FI = DL at *
  clear hDL
  generalize hMC : mcP k si so ps.flatten = MC at *
  clear hMC
  generalize feedP k so DL = FO at *
  obtain ⟨K8, hK8⟩ : ∃ K8, k / 8 = K8 := ⟨_, rfl⟩
  rw [hK8] at HSO
  rw [hK8]
  clear hK8
  generalize DL.length = ND at *
  generalize hPL : ps.length = PL at *
  have HPL := hidD hPL
  clear hPL
  go_enter Try.func34, Try.ntmps34
  go_upto_region 1 with fail
  obtain ⟨WA, hWA⟩ : ∃ WA : World, WA = w.alloc (.cells #[.pointer (some ⟨gi, 0, none⟩), .pointer (some ⟨go, 0, none⟩)] (63 : TypeId)) := ⟨_, rfl⟩
  refine at_world hWA ?_
  rw [← hWA] at W1 B1
  clear hWA
  have SA := hidD (HSI0.out.next B1.out)
  have OA := hidD (HSO0.out.next B1.out)
  have c0 : ∀ i : KB WA [w.heap.size, gi, go], i.v.cell? ⟨w.heap.size, 0, none⟩ = some (.pointer (some ⟨gi, 0, none⟩)) := fun i => by rw [cell_of_row _ _ _ _ _ _ ((i.keep w.heap.size (by simp)).trans W1.out)]; rfl
  have c1 : ∀ i : KB WA [w.heap.size, gi, go], i.v.cell? ⟨w.heap.size, 1, none⟩ = some (.pointer (some ⟨go, 0, none⟩)) := fun i => by rw [cell_of_row _ _ _ _ _ _ ((i.keep w.heap.size (by simp)).trans W1.out)]; rfl
  have HKK : Hid (∀ wB, Below WA.heap.size WA wB → ∃ i : KB WA [w.heap.size, gi, go], wB = i.v) := fun wB hb => ⟨⟨wB, fun x hx => by
    rcases (show x = w.heap.size ∨ x = gi ∨ x = go by simpa using hx) with h | h | h <;> subst h
    · exact hb.block _ (row_lt W1.out)
    · exact hb.block _ SA.out.lt
    · exact hb.block _ OA.out.lt⟩, rfl⟩
  refine wp_region_loud0 [true, true, false, true, true, false, false, false] [w.heap.size, gi, go] (by kernel_rfl) (by kernel_rfl) (by kernel_rfl) (by kernel_rfl) (by kernel_rfl) (fun _ _ _ _ _ h => h) ?_
  simp only [qPick, lPick]
  repeat (go_big_quiet_step (fail))
  refine wpQuiet_nil ?_
  simp only [LoudW]
  clear c0 c1
  have HD : Hid (Below WA.heap.size WA WA.drew) := (Below.refl _ _).drew
  have SD : Hid (StAt WA.drew gi k si) := SA.out
  go_wp2_with (go_at_call 32; refine (HCI.out _ SD.out).mono ?_; rintro e w2 ⟨g1, rfl, hg1, hs1, hx2⟩)
  have K2 : Hid (Below WA.heap.size WA w2) := HD.out.trans hx2
  have S2 := hidD hs1
  have O2 : Hid (StAt w2 go k so) := OA.out.next K2.out
  have G2 : Hid (w.heap.size < g1) := Nat.lt_of_lt_of_le (row_lt W1.out) hg1
  clear hg1 hs1 hx2
  refine ⟨HKK.out _ K2.out, ?_⟩
  go_wp2_with (go_at_call 32; refine (HCO.out _ O2.out).mono ?_; rintro e w3 ⟨g2, rfl, hg2, hs2, hx3⟩)
  have K3 : Hid (Below WA.heap.size WA w3) := Below.next K2.out hx3
  have S3 := hidD (S2.out.next hx3)
  have O3 := hidD hs2
  have G3 : Hid (g1 < g2) := Nat.lt_of_lt_of_le S2.out.lt hg2
  have B3 : Hid (Below w.heap.size w w3) := Below.next B1.out K3.out
  clear hg2 hs2 hx3
  refine ⟨HKK.out _ K3.out, ?_⟩
  go_wp2_with fail
  refine ⟨HKK.out _ K3.out, ?_⟩
  go_wp2_with fail
  refine ⟨HKK.out _ K3.out, ?_⟩
  clear HKK K2 HD SD SA OA W1 B1 S2 O2
  go_wp2_with fail
  go_loopw [17] (fun iv wr => ∃ i : Nat, i ≤ PL ∧ iv = .int .i64 (i : Int) ∧ StAt wr g1 k (feedP k si (ps.take i).flatten) ∧ But g1 w3 wr) (fun iv _ => PL - (intOf iv).toNat)
  case atStart => exact ⟨0, Nat.zero_le _, rfl, S3.out, But.refl _ _⟩
  case round =>
    clear S3
    obtain ⟨i, hi, rfl, hst, hbut⟩ := hrel
    by_cases hlt : i < PL
    · have hlti : (i : Int) < (PL : Int) := by omega
      obtain ⟨ai, ci, hci, hyi⟩ := HPC.out i hlt
      have hgl := HGP.out
      have hg1 := G2.out
      have c0 : wr.cell? ⟨gp, off + i, none⟩ = some (.slice ai (ps.getD i []).length ci) := by
        rw [hbut.cell (i := gp) (o := off + i) (Nat.lt_of_lt_of_le hgl B3.out.size) (by omega), B3.out.cell (p := ⟨gp, off + i, none⟩) hgl]
        exact hci
      have hoff : (ps.getD i []) ≠ [] → Off (.slice ai (ps.getD i []).length ci) g1 := by_off hyi (Nat.le_of_lt hg1)
      have hy : ByAt wr (.slice ai (ps.getD i []).length ci) (ps.getD i []) := (hyi.next B3.out).but' hbut hoff
      have HW := hidD (HWP.out i g1 ai ci wr hst hy hoff)
      have HN := hidD (HFS.out i hlt)
      have HB := hidD hbut
      clear hst hbut hy hoff hyi hci hgl hg1
      generalize (ps.getD i []).length = Li at *
      go_wp2_with fail
      go_at_call 26
      refine HW.out.mono ?_
      rintro e w4 ⟨rfl, hs4, hx4⟩
      have H4 : Hid (StAt w4 g1 k (feedP k si (ps.take (i + 1)).flatten)) := by show StAt _ _ _ _; rw [HN.out]; exact hs4
      have B4 := hidD (HB.out.trans hx4)
      clear hs4 hx4 HW HB
      go_wp2_with fail
      go_roundw
      case rel =>
        first
        | exact ⟨i + 1, by omega, by go_num, H4.out, B4.out⟩
        | ((repeat apply Exists.intro); refine And.intro ?_ rfl; exact ⟨i + 1, by omega, by go_num, H4.out, B4.out⟩)
      case measure => simp [intOf]; omega
    · obtain rfl : i = PL := by omega
      have hlti : ¬ (i : Int) < (i : Int) := by omega
      have H5 : Hid (StAt wr g1 k FI) := by
        have h := hst
        rw [← HPL.out, List.take_length, HFI.out] at h
        exact h
      have O5 : Hid (StAt wr g2 k so) := O3.out.but hbut (by have := G3.out; omega)
      have B5 : Hid (Below w.heap.size w wr) := B3.out.trans (hbut.bel.mono (by have := G2.out; omega))
      clear hst hbut
      go_wp2_with fail
      go_at_call 28
      refine (HSI.out g1 _ H5.out).mono ?_
      rintro e w6 ⟨g6, rfl, hg6, hy6, hx6⟩
      have O6 := hidD (O5.out.next hx6)
      have B6 := hidD (Below.next B5.out hx6)
      have W6 := hidD (HWO.out g2 g6 _ (by have := O5.out.lt; omega) O6.out hy6)
      clear hg6 hy6 hx6 O5 B5 H5
      go_wp2_with fail
      go_at_call 26
      refine W6.out.mono ?_
      rintro e w7 ⟨rfl, hs7, hx7⟩
      have B7 : Hid (Below w.heap.size w w7) := B6.out.trans (hx7.bel.mono (by have := G2.out; have := G3.out; omega))
      have S7 := hidD (HSO.out g2 _ hs7)
      clear hs7 hx7 W6 B6 O6
      go_wp2_with fail
      go_at_call 28
      refine S7.out.mono ?_
      rintro e w8 ⟨g8, rfl, hg8, hr8, hx8⟩
      have HF : Hid (w.heap.size ≤ g8 ∧ RowZ w8 g8 .u8 K8 5 (fun i => ((MC i).toNat : Int)) ∧ Below w.heap.size w w8) := ⟨Nat.le_trans B7.out.size hg8, hr8, Below.next B7.out hx8⟩
      clear hg8 hr8 hx8 S7 B7
      go_wp2_with fail
      go_ret
      exact ⟨g8, rfl, HF.out⟩
end Go.Proofs.Ytnldpofljeodiaa
