/- Scrub. -/
import Derived.Test.YtjnfnihhihncmaaMmq
namespace Go.Proofs.Ytjnfnihhihncmaa
open Go.RowKit
set_option linter.unusedVariables false

theorem mX_two (z : Nat × Nat) : 0 ≤ mX z ∧ mX z ≤ 1 := by unfold mX; split <;> (try split) <;> decide
theorem mY_two (z : Nat × Nat) : 0 ≤ mY z ∧ mY z ≤ 1 := by unfold mY; split <;> decide
/- what is counted, and laid anew, of n cells from f on -/
def sumX (Z : Nat → Nat × Nat) (f : Nat) (g : Nat × Nat → Int) : Nat → Int
  | 0 => 0
  | n + 1 => sumX Z f g n + g (Z (f + n))
theorem sumX_le (Z : Nat → Nat × Nat) (f : Nat) (g : Nat × Nat → Int) (hg : ∀ z, 0 ≤ g z ∧ g z ≤ 1) : ∀ n, 0 ≤ sumX Z f g n ∧ sumX Z f g n ≤ n
  | 0 => ⟨Int.le_refl _, Int.le_refl _⟩
  | n + 1 => by
    have h1 := sumX_le Z f g hg n
    have h2 := hg (Z (f + n))
    show 0 ≤ sumX Z f g n + g (Z (f + n)) ∧ sumX Z f g n + g (Z (f + n)) ≤ ((n + 1 : Nat) : Int)
    omega
open Classical in
noncomputable def scZ (Z : Nat → Nat × Nat) (f n : Nat) : Nat → Nat × Nat := fun i => if f ≤ i ∧ i < f + n then mdZ (Z i) else Z i
theorem scZ_zero (Z : Nat → Nat × Nat) (f : Nat) : scZ Z f 0 = Z := funext fun i => by unfold scZ; rw [if_neg (by omega)]
theorem scZ_step (Z : Nat → Nat × Nat) (f n : Nat) : scZ Z f (n + 1) = upd (scZ Z f n) (f + n) (mdZ (scZ Z f n (f + n))) := funext fun i => by
  unfold upd scZ
  by_cases h : i = f + n
  · subst h; rw [if_pos (by omega), if_pos rfl, if_neg (by omega)]
  · rw [if_neg h]
    by_cases h2 : f ≤ i ∧ i < f + n
    · rw [if_pos (by omega), if_pos h2]
    · rw [if_neg (by omega), if_neg h2]
theorem scZ_last (Z : Nat → Nat × Nat) (f n : Nat) : scZ Z f n (f + n) = Z (f + n) := by unfold scZ; rw [if_neg (by omega)]
open Classical in
noncomputable def scR (Z : Nat → Nat × Nat) (r : Rgn) : Nat → Nat × Nat := if r.2.2 = 1 ∨ r.2.2 = 2 then scZ Z r.1.toNat (r.2.1 - r.1).toNat else Z
open Classical in
noncomputable def scS (Z : Nat → Nat × Nat) (g : Nat × Nat → Int) (r : Rgn) : Int := if r.2.2 = 1 ∨ r.2.2 = 2 then sumX Z r.1.toNat g (r.2.1 - r.1).toNat else 0
noncomputable def scTo (Z : Nat → Nat × Nat) (R : List Rgn) : Nat → Nat → Nat × Nat
  | 0 => Z
  | n + 1 => scR (scTo Z R n) (R.getD n (0, 0, 0))
noncomputable def scX (Z : Nat → Nat × Nat) (g : Nat × Nat → Int) (R : List Rgn) : Nat → Int
  | 0 => 0
  | n + 1 => scX Z g R n + scS (scTo Z R n) g (R.getD n (0, 0, 0))
theorem scX_le (Z : Nat → Nat × Nat) (g : Nat × Nat → Int) (hg : ∀ z, 0 ≤ g z ∧ g z ≤ 1) (R : List Rgn) (hR : ∀ x ∈ R, okR x) : ∀ n, n ≤ R.length → 0 ≤ scX Z g R n ∧ scX Z g R n ≤ n * 65536
  | 0, _ => ⟨Int.le_refl _, Int.le_refl _⟩
  | n + 1, h => by
    have h1 := scX_le Z g hg R hR n (by omega)
    have hk := hR _ (List.getElem_mem (show n < R.length by omega))
    have e : R.getD n (0, 0, 0) = R[n] := by rw [List.getD_eq_getElem?_getD, List.getElem?_eq_getElem (by omega)]; rfl
    have hs : 0 ≤ scS (scTo Z R n) g R[n] ∧ scS (scTo Z R n) g R[n] ≤ 65536 := by
      unfold scS
      split
      · have := sumX_le (scTo Z R n) R[n].1.toNat g hg (R[n].2.1 - R[n].1).toNat
        obtain ⟨k1, k2, k3, _⟩ := hk
        omega
      · decide
    show 0 ≤ scX Z g R n + scS (scTo Z R n) g (R.getD n (0, 0, 0)) ∧ scX Z g R n + scS (scTo Z R n) g (R.getD n (0, 0, 0)) ≤ ((n + 1 : Nat) : Int) * 65536
    rw [e]
    omega
set_option maxRecDepth 100000 in
set_option maxHeartbeats 6400000 in
theorem scrub_any {w : World} {k : Mk} {Z : Nat → Nat × Nat} {x y : Int} (h : MeAt w k Z x y) (hs : SepR k.R) (hx : 0 ≤ x ∧ x < 1152921504606846976) (hy : 0 ≤ y ∧ y < 1152921504606846976) :
    Calls Try.prog 19 #[.pointer (some ⟨k.m, 0, none⟩)] w fun e w' => e = .returned (.tuple #[.int .i64 (scX Z mX k.R k.R.length), .int .i64 (scX Z mY k.R k.R.length)]) ∧ MeAt w' k (scTo Z k.R k.R.length) (x + scX Z mX k.R k.R.length) (y + scX Z mY k.R k.R.length) ∧ Chg k.own w w' := by
  have HM := hidD h
  have HS := hidD hs
  obtain ⟨c0, c1, c2, c3, c4⟩ := h.cells
  have hl64 : k.R.length ≤ 64 := h.ok.2.2.2.2.2
  obtain ⟨va, hva⟩ : ∃ va, Hid (k.va = va) := ⟨_, rfl⟩
  rw [hva.out] at c0
  have HX := hidD (scX_le Z mX mX_two k.R hs.2)
  have HY := hidD (scX_le Z mY mY_two k.R hs.2)
  clear h hs c1 c2
  go_enter Try.func19, Try.ntmps19
  go_wp2_with fail
  go_quiet (fail)
  go_wp2_with fail
  generalize nq = nq' at *
  go_loopw [24] (fun i wr => ∃ n : Nat, n ≤ k.R.length ∧ i = .int .i64 n ∧ MeAt wr k (scTo Z k.R n) (x + scX Z mX k.R n) (y + scX Z mY k.R n) ∧ Chg k.own w wr) (fun i _ => k.R.length - (intOf i).toNat)
  case atStart =>
    refine ⟨0, Nat.zero_le _, rfl, ?_, Chg.of (below_drewN (Below.refl _ _) _)⟩
    have := HM.out.next (below_drewN (Below.refl _ _) nq')
    show MeAt _ k Z (x + 0) (y + 0)
    rw [Int.add_zero, Int.add_zero]; exact this
  case round =>
    obtain ⟨n, hn, rfl, hme, hchg⟩ := hrel
    have HME := hidD hme
    have HCH := hidD hchg
    clear hme hchg
    have hbx := HX.out n hn
    have hby := HY.out n hn
    have HXN := hidD hbx
    have HYN := hidD hby
    by_cases hlt : n < k.R.length
    · have hlti : (n : Int) < k.R.length := by omega
      obtain ⟨v0, k0, k1, k2⟩ := HME.out.rg.2 n hlt
      have hv0 : va = some ⟨k.r, 0, none⟩ := hva.out.symm.trans v0
      subst hv0
      have HGD : Hid (k.R.getD n (0, 0, 0) = k.R[n]) := by show _ = _; rw [List.getD_eq_getElem?_getD, List.getElem?_eq_getElem hlt]; rfl
      have HT1 : Hid (scTo Z k.R (n + 1) = scR (scTo Z k.R n) k.R[n]) := by show scR (scTo Z k.R n) (k.R.getD n (0, 0, 0)) = _; rw [HGD.out]
      have HX1 : Hid (x + scX Z mX k.R (n + 1) = x + scX Z mX k.R n + scS (scTo Z k.R n) mX k.R[n]) := by show x + (scX Z mX k.R n + scS (scTo Z k.R n) mX (k.R.getD n (0, 0, 0))) = _; rw [HGD.out, Int.add_assoc]
      have HY1 : Hid (y + scX Z mY k.R (n + 1) = y + scX Z mY k.R n + scS (scTo Z k.R n) mY k.R[n]) := by show y + (scX Z mY k.R n + scS (scTo Z k.R n) mY (k.R.getD n (0, 0, 0))) = _; rw [HGD.out, Int.add_assoc]
      have hok := HS.out.2 _ (List.getElem_mem hlt)
      have hxb : 0 ≤ x + scX Z mX k.R n ∧ x + scX Z mX k.R n < 1152921504606846976 + 4194304 := by omega
      have hyb : 0 ≤ y + scX Z mY k.R n ∧ y + scX Z mY k.R n < 1152921504606846976 + 4194304 := by omega
      clear hbx hby HGD v0
      generalize k.R[n] = q at *
      obtain ⟨Zn, hZn⟩ : ∃ Zn, Hid (scTo Z k.R n = Zn) := ⟨_, rfl⟩
      obtain ⟨xn, hxn⟩ : ∃ xn, Hid (x + scX Z mX k.R n = xn) := ⟨_, rfl⟩
      obtain ⟨yn, hyn⟩ : ∃ yn, Hid (y + scX Z mY k.R n = yn) := ⟨_, rfl⟩
      rw [hZn.out, hxn.out, hyn.out] at HME
      rw [hZn.out] at HT1
      rw [hZn.out, hxn.out] at HX1
      rw [hZn.out, hyn.out] at HY1
      rw [hxn.out] at hxb
      rw [hyn.out] at hyb
      obtain ⟨f, t, kd⟩ := q
      have hf : f = ((f.toNat : Nat) : Int) := by have := hok.1; simp only at this; omega
      have htt : t = ((t.toNat : Nat) : Int) := by have := hok.1; have := hok.2.2.1; simp only at *; omega
      have hft : f.toNat < t.toNat ∧ t.toNat ≤ 65536 := by obtain ⟨o1, o2, o3, _⟩ := hok; simp only at o1 o2 o3; omega
      have hfd : (t - f).toNat = t.toNat - f.toNat := by omega
      have HD1 : Hid (kd = 1 ∨ kd = 2 → scTo Z k.R (n + 1) = scZ Zn f.toNat (t.toNat - f.toNat) ∧ x + scX Z mX k.R (n + 1) = xn + sumX Zn f.toNat mX (t.toNat - f.toNat) ∧ y + scX Z mY k.R (n + 1) = yn + sumX Zn f.toNat mY (t.toNat - f.toNat)) := fun hk => by
        rw [HT1.out, HX1.out, HY1.out]; unfold scR scS; simp only [if_pos hk, hfd]; exact ⟨trivial, trivial, trivial⟩
      have HD2 : Hid (¬ (kd = 1 ∨ kd = 2) → scTo Z k.R (n + 1) = Zn ∧ x + scX Z mX k.R (n + 1) = xn ∧ y + scX Z mY k.R (n + 1) = yn) := fun hk => by
        rw [HT1.out, HX1.out, HY1.out]; unfold scR scS; simp only [if_neg hk, Int.add_zero]; exact ⟨trivial, trivial, trivial⟩
      clear HT1 HX1 HY1 hok hfd
      generalize f.toNat = F at *
      generalize t.toNat = T at *
      subst hf htt
      change wr.cell? ⟨k.r, n * 3, none⟩ = some (.int .i64 (F : Int)) at k0
      change wr.cell? ⟨k.r, n * 3 + 1, none⟩ = some (.int .i64 (T : Int)) at k1
      change wr.cell? ⟨k.r, n * 3 + 2, none⟩ = some (.int .i64 kd) at k2
      obtain ⟨g0, g1, g2⟩ := rg_cells wr (F : Int) (T : Int) kd
      have HSB : Hid (¬ k.own wr.heap.size) := fun e => e.elim (fun e => by have := HME.out.lt.1; omega) (fun e => by have := HME.out.lt.2.2; omega)
      have HA := hidD (pin_map (w := wr) (.cells #[.int .i64 (F : Int), .int .i64 (T : Int), .int .i64 kd] (35 : TypeId)))
      have HLS : Hid (wr.heap.size < (wr.alloc (.cells #[.int .i64 (F : Int), .int .i64 (T : Int), .int .i64 kd] (35 : TypeId))).heap.size) := row_lt (heap_alloc_last _ _)
      by_cases hkd : kd = 1 ∨ kd = 2
      · have HH : Hid (∀ w, Calls Try.prog 52 #[.agg #[.int .i64 (F : Int), .int .i64 (T : Int), .int .i64 kd]] w fun e w' => e = .returned (.bool true) ∧ Below w.heap.size w w') := fun w => by have := hasCells_any (F : Int) (T : Int) kd w; rw [decide_eq_true hkd] at this; exact this
        have HD := hidD (HD1.out hkd)
        clear hkd HD1 HD2
        go_wp2_with (go_at_call 52; refine (HH.out _).mono ?_; rintro e w3 ⟨rfl, hb3⟩
                     have HB3 := hidD (HA.out.trans (hb3.mono HA.out.size))
                     have HM3 := hidD (HME.out.next HB3.out)
                     have HC3 := hidD (HCH.out.trans (Chg.of HB3.out))
                     have HL3 := hidD (Nat.lt_of_lt_of_le HLS.out hb3.size)
                     have s0 := (hb3.cell (p := ⟨wr.heap.size, 0, none⟩) HLS.out).trans g0
                     have s1 := (hb3.cell (p := ⟨wr.heap.size, 1, none⟩) HLS.out).trans g1
                     clear hb3)
        generalize wr.heap.size = sb at *
        have HS1 := hidD s1
        clear s0 s1 g0 g1 g2 k0 k1 k2 hlti
        go_loopw [8] (fun i wr2 => ∃ j : Nat, F + j ≤ T ∧ i = .int .i64 ((F + j : Nat) : Int) ∧ MeAt wr2 k (scZ Zn F j) (xn + sumX Zn F mX j) (yn + sumX Zn F mY j) ∧ Chg k.own w3 wr2) (fun i _ => T - (intOf i).toNat)
        case atStart =>
          refine ⟨0, by omega, rfl, ?_, Chg.refl _ _⟩
          show MeAt w3 k (scZ Zn F 0) (xn + 0) (yn + 0)
          rw [scZ_zero, Int.add_zero, Int.add_zero]; exact HM3.out
        case round =>
          obtain ⟨j, hj, rfl, hme2, hchg2⟩ := hrel
          have HM2 := hidD hme2
          have HC2 := hidD hchg2
          clear hme2 hchg2
          have s1 := (World.cell?_of_block (w := w3) (a := ⟨sb, 1, none⟩) (HC2.out.block sb HL3.out HSB.out)).trans HS1.out
          obtain ⟨A, hA⟩ : ∃ A : Nat, Hid (F + j = A) := ⟨_, rfl⟩
          rw [hA.out]
          have hbx := sumX_le Zn F mX mX_two j
          have hby := sumX_le Zn F mY mY_two j
          have hAT : A ≤ T := by have := hA.out; omega
          by_cases hlt2 : A < T
          · have hlti2 : (A : Int) < (T : Int) := by omega
            have hAb : A < 65536 := by omega
            have HRC := hidD (readCell_any HM2.out A hAb (by omega) (by omega))
            have HZ1 : Hid (scZ Zn F (j + 1) = upd (scZ Zn F j) A (mdZ (scZ Zn F j A)) ∧ xn + sumX Zn F mX (j + 1) = xn + sumX Zn F mX j + mX (scZ Zn F j A) ∧ yn + sumX Zn F mY (j + 1) = yn + sumX Zn F mY j + mY (scZ Zn F j A)) := by
              have hA' := hA.out
              subst hA'
              refine ⟨scZ_step Zn F j, ?_, ?_⟩ <;> rw [scZ_last, Int.add_assoc] <;> rfl
            clear hbx hby
            generalize ((decS (scZ Zn F j A)).1 : Int) = V at *
            generalize rdE (scZ Zn F j A) = ER at *
            go_wp2_with (go_at_call 50; refine HRC.out.mono ?_; rintro e w4 ⟨rfl, hm4, hc4⟩; have HM4 := hidD hm4; have HC4 := hidD (HC2.out.trans hc4); clear hm4 hc4)
            exact ⟨⟨j + 1, by have := hA.out; omega, by have := hA.out; show Value.int .i64 ((A : Int) + 1) = .int .i64 ((F + (j + 1) : Nat) : Int); congr 1; omega, by rw [HZ1.out.1, HZ1.out.2.1, HZ1.out.2.2]; exact HM4.out, HC4.out⟩, by simp [intOf]; omega⟩
          · have hjT : j = T - F := by have := hA.out; omega
            have hlti2 : ¬ (A : Int) < (T : Int) := by omega
            go_wp2_with fail
            exact ⟨⟨n + 1, by omega, by simp, by rw [HD.out.1, HD.out.2.1, HD.out.2.2, ← hjT]; exact HM2.out, HC3.out.trans HC2.out⟩, by simp [intOf]; omega⟩
      · have HH : Hid (∀ w, Calls Try.prog 52 #[.agg #[.int .i64 (F : Int), .int .i64 (T : Int), .int .i64 kd]] w fun e w' => e = .returned (.bool false) ∧ Below w.heap.size w w') := fun w => by have := hasCells_any (F : Int) (T : Int) kd w; rw [decide_eq_false hkd] at this; exact this
        have HD := hidD (HD2.out hkd)
        clear hkd HD1 HD2
        go_wp2_with (go_at_call 52; refine (HH.out _).mono ?_; rintro e w3 ⟨rfl, hb3⟩
                     have HB3 := hidD (HA.out.trans (hb3.mono HA.out.size))
                     have HM3 := hidD (HME.out.next HB3.out)
                     have HC3 := hidD (HCH.out.trans (Chg.of HB3.out))
                     clear hb3)
        exact ⟨⟨n + 1, by omega, by simp, by rw [HD.out.1, HD.out.2.1, HD.out.2.2]; exact HM3.out, HC3.out⟩, by simp [intOf]; omega⟩
    · have hnl : n = k.R.length := by omega
      have hnni : ¬ (n : Int) < k.R.length := by omega
      obtain ⟨-, -, -, d3, d4⟩ := HME.out.cells
      subst hnl
      clear hbx hby
      obtain ⟨X, hX⟩ : ∃ X, Hid (scX Z mX k.R k.R.length = X) := ⟨_, rfl⟩
      obtain ⟨Y, hY⟩ : ∃ Y, Hid (scX Z mY k.R k.R.length = Y) := ⟨_, rfl⟩
      rw [hX.out, hY.out] at HME
      rw [hX.out] at HXN d3
      rw [hY.out] at HYN d4
      have hbX := HXN.out
      have hbY := HYN.out
      have hwx : IntKind.i64.wrap (x + X - x) = X := by unfold IntKind.wrap; simp [IntKind.bits, IntKind.signed]; omega
      have hwy : IntKind.i64.wrap (y + Y - y) = Y := by unfold IntKind.wrap; simp [IntKind.bits, IntKind.signed]; omega
      go_wp2_with fail
      go_quiet (fail)
      go_wp2_with fail
      refine bodyPost_ret (v := .tuple #[.int .i64 X, .int .i64 Y]) (by simp [results, Try.results19, go_sem]) rfl ?_
      exact ⟨by rw [hX.out, hY.out], by rw [hX.out, hY.out]; exact HME.out.next (below_drewN (Below.refl _ _) _), HCH.out.trans (Chg.of (below_drewN (Below.refl _ _) _))⟩
end Go.Proofs.Ytjnfnihhihncmaa
