/- What amend answers: Forney's rule. -/
import Derived.Test.YtdpkeffkpecmjaaGb
namespace Go.Proofs.Ytdpkeffkpecmjaa
open Go.RowKit
set_option linter.unusedVariables false

/-- A quotient, and 0 by 0. -/
def divZ (a b : UInt8) : UInt8 := if b = 0 then 0 else bm 29 a (inv 29 b)
theorem divZ_any {b : Nat} (x y : UInt8) (w : World) (hf : FdAt w b 29 2) : Calls Try.prog 70 #[.pointer (some ⟨b, 0, none⟩), .int .u8 (x.toNat : Int), .int .u8 (y.toNat : Int)] w fun e w' => ∃ z, e = .returned (.tuple #[.int .u8 ((divZ x y).toNat : Int), .int .i64 z]) ∧ Below w.heap.size w w' := by
  by_cases h : y = 0
  · subst h
    refine (div_zero (b := b) x w).mono ?_
    rintro e w2 ⟨rfl, hb⟩
    exact ⟨_, by rw [divZ, if_pos rfl]; rfl, hb⟩
  · refine (div_any one_d x y h w hf).mono ?_
    rintro e w2 ⟨rfl, hb⟩
    exact ⟨_, by rw [divZ, if_neg h], hb⟩
/-- What the byte of this power is off. -/
def offS (f p : Nat) (S loc : List UInt8) (q : Int) : UInt8 :=
  bm 29 (divZ (evalS 29 (pwI 29 2 (-q)) (lowS p (mulS 29 S loc))) (evalS 29 (pwI 29 2 (-q)) (slopeS loc))) (pwI 29 2 (q * (1 - (f : Int))))
/-- The word, with what is off at the first k places taken away. -/
def amTo (f p : Nat) (word S loc : List UInt8) (PL : List Int) : Nat → List UInt8
  | 0 => word
  | k + 1 => (amTo f p word S loc PL k).set (PL.getD k 0).toNat (cf (amTo f p word S loc PL k) (PL.getD k 0).toNat ^^^ offS f p S loc ((word.length : Int) - 1 - PL.getD k 0))
theorem amTo_length (f p : Nat) (word S loc : List UInt8) (PL : List Int) : ∀ k, (amTo f p word S loc PL k).length = word.length
  | 0 => rfl
  | k + 1 => by rw [amTo, List.length_set, amTo_length f p word S loc PL k]
theorem pow_get (L : List Int) (n k : Nat) (hk : k < L.length) : (powS L n).getD k 0 = (n : Int) - 1 - L.getD k 0 := by
  simp [powS, hk]

theorem SlAt.past {w w1 w2 : World} {v : Value} {l : List UInt8} {g : Nat} (h : SlAt w v l) (hb : Below w.heap.size w w1) (hg : w.heap.size ≤ g) (hbut : But g w1 w2) : SlAt w2 v l := by
  refine ⟨h.shape, ?_⟩
  rcases h.by' with h0 | ⟨k, off, cap, he, hk, hc⟩
  · exact .inl h0
  · exact .inr ⟨k, off, cap, he, Nat.lt_of_lt_of_le hk (Nat.le_trans hb.size hbut.bel.size), fun j hj => ((hbut.cell (Nat.lt_of_lt_of_le hk hb.size) (by omega)).trans (hb.cell (p := ⟨k, _, none⟩) hk)).trans (hc j hj)⟩

set_option maxRecDepth 100000 in
set_option maxHeartbeats 3200000 in
theorem amend_any {c p f : Nat} (hp : p ≤ 254) (hf : f ≤ 254) (word : List UInt8) (hw : word.length ≤ 255) (PL : List Int) (hPl : PL.length ≤ 255) (hr : ∀ k, k < PL.length → 0 ≤ PL.getD k 0 ∧ PL.getD k 0 < word.length) (S loc : List UInt8) (hS : S.length ≤ 255) (hloc : loc.length ≤ 1000000)
    (vw vp vs vl : Value) (w : World) (hc : CdAt w c p f) (hvw : SlAt w vw word) (hvp : IlAt w vp PL) (hvs : SlAt w vs S) (hvl : SlAt w vl loc) :
    Calls Try.prog 64 #[.pointer (some ⟨c, 0, none⟩), vw, vp, vs, vl] w fun e w' => ∃ g, e = .returned (.slice (some ⟨g, 0, none⟩) word.length word.length) ∧ w.heap.size ≤ g ∧ RowAt w' g (amTo f p word S loc PL PL.length) ∧ Below w.heap.size w w' := by
  have HCD := hidD hc
  have HVW := hidD hvw
  have HVP := hidD hvp
  have HVS := hidD hvs
  have HVL := hidD hvl
  have HR := hidD hr
  obtain ⟨gv, b, hg2, hg3, hg4, hg5⟩ := hc.rest
  have h1 := hc.c1
  have HCL := hidD hc.lt
  have HFD := hidD hg5
  have HML := hidD (mul_len 29 S loc)
  have HLL := hidD (low_len p (mulS 29 S loc))
  have HPW := hidD (fun w' (h : Below w.heap.size w w') => powersOf_any PL (by omega) (fun k hk => ⟨(hr k hk).1, by have := (hr k hk).2; omega⟩) word.length hw vp w' (hvp.next h))
  have HPG := hidD (pow_get PL word.length)
  have HPN : Hid ((powS PL word.length).length = PL.length) := by show _ = _; simp [powS]
  have HAL := hidD (amTo_length f p word S loc PL)
  have HAS : Hid (∀ k, amTo f p word S loc PL (k + 1) = (amTo f p word S loc PL k).set (PL.getD k 0).toNat (cf (amTo f p word S loc PL k) (PL.getD k 0).toNat ^^^ offS f p S loc ((word.length : Int) - 1 - PL.getD k 0))) := fun k => rfl
  have HOF : Hid (∀ q, offS f p S loc q = bm 29 (divZ (evalS 29 (pwI 29 2 (-q)) (lowS p (mulS 29 S loc))) (evalS 29 (pwI 29 2 (-q)) (slopeS loc))) (pwI 29 2 (q * (1 - (f : Int))))) := fun q => rfl
  have HSL : Hid ((slopeS loc).length = loc.length) := by show _ = _; simp [slopeS]
  have HCW := hidD (fun w' (h : Below w.heap.size w w') => copyOf_any word (by omega) vw w' (hvw.next h))
  obtain ⟨⟨aw, cw, rfl, hcw1, hcw2⟩, _⟩ := hvw
  obtain ⟨ap, cp, rfl, hcp1, hcp2, hcell⟩ := hvp
  have HCE := hidD hcell
  clear hc hg4 hg5 hg2 hvs hvl hcell hr
  generalize hwl : word.length = n at *
  generalize hpl : PL.length = m at *
  clear hwl hpl
  have j3 := hg3
  go_enter Try.func64, Try.ntmps64
  go_wp2_with (first
    | (go_at_call 51; refine (times_any one_d S loc (by omega) _ _ _ HFD.out HVS.out HVL.out).mono ?_; rintro e w2 ⟨v2, rfl, hs2, hb2⟩; have HS2 := hidD hs2; have HB2 := hidD hb2; clear hs2 hb2)
    | (go_at_call 74; refine (low_any (mulS 29 S loc) (by have := HML.out; omega) _ _ (HCD.out.next HB2.out) HS2.out).mono ?_; rintro e w3 ⟨v3, rfl, hs3, hb3⟩; have HS3 := hidD hs3; have HB3 := hidD (Below.next HB2.out hb3); clear hs3 hb3)
    | (go_at_call 76; refine (slopesOf_any loc (by omega) _ _ (HVL.out.next HB3.out)).mono ?_; rintro e w4 ⟨rfl, hr4, hb4⟩; have HR4 := hidD hr4; have HB4 := hidD (Below.next HB3.out hb4); have HS3' := hidD (HS3.out.next hb4); clear hr4 hb4)
    | (go_at_call 44; refine (HCW.out _ HB4.out).mono ?_; rintro e w5 ⟨rfl, hr5, hb5⟩; have HR5 := hidD hr5; have HB45 := hidD hb5; have HB5 := hidD (Below.next HB4.out hb5); clear hr5 hb5)
    | (go_at_call 62; refine (HPW.out _ HB5.out).mono ?_; rintro e w6 ⟨rfl, hr6, hb6⟩; have HR6 := hidD hr6; have HB56 := hidD hb6; have HB6 := hidD (Below.next HB5.out hb6); clear hr6 hb6))
  have HG4 : Hid (w.heap.size ≤ w4.heap.size) := HB4.out.size
  have HG35 : Hid (w3.heap.size ≠ w4.heap.size) := Nat.ne_of_lt HR4.out.lt
  have HG56 : Hid (w5.heap.size ≠ w4.heap.size) := Nat.ne_of_gt HR5.out.lt
  have HB46 : Hid (Below w4.heap.size w4 w6) := Below.next HB45.out HB56.out
  have HR56 : Hid (RowAt w6 w4.heap.size (amTo f p word S loc PL 0)) := HR5.out.next HB56.out
  go_loopw [14, 15, 16, 17, 18, 37] (fun _ _ _ _ _ i wr => ∃ k : Nat, k ≤ m ∧ i = .int .i64 k ∧ RowAt wr w4.heap.size (amTo f p word S loc PL k) ∧ But w4.heap.size w6 wr) (fun _ _ _ _ _ i _ => m - (intOf i).toNat)
  case atStart => exact ⟨0, Nat.zero_le _, rfl, HR56.out, But.refl _ _⟩
  case round =>
    obtain ⟨k, hk, rfl, hrow, hbut⟩ := hrel
    have HBU := hidD hbut
    have HRW := hidD hrow
    have HBW : Hid (Below w.heap.size w wr) := HB6.out.trans (HBU.out.bel.mono HG4.out)
    by_cases hlt : k < m
    · have hlti : (k : Int) < m := by omega
      obtain ⟨gl, ol, rfl, hgl, hcl⟩ := HCE.out k hlt
      obtain ⟨hx1, hx2⟩ := HR.out k hlt
      have HASk := hidD (HAS.out k)
      obtain ⟨pl, hplx⟩ : ∃ pl : Nat, PL.getD k 0 = (pl : Int) := ⟨(PL.getD k 0).toNat, by omega⟩
      have hpk := HPG.out k hlt
      rw [hplx] at hx1 hx2 hcl HASk hpk
      rw [Int.toNat_natCast] at HASk
      have hpln : pl < n := by omega
      have hplni : (pl : Int) < n := by omega
      have hcx : wr.cell? ⟨gl, ol + k, none⟩ = some (.int .i64 (pl : Int)) := (HBW.out.cell (p := ⟨gl, _, none⟩) hgl).trans hcl
      have hcp : wr.cell? ⟨w5.heap.size, k, none⟩ = some (.int .i64 ((n : Int) - 1 - pl)) := by
        have h := HR6.out.cell (k := k) (by rw [HPN.out]; exact hlt)
        rw [hpk] at h
        exact (hbut.cell HR6.out.lt HG56.out).trans h
      have HFDr := hidD (HFD.out.next HBW.out)
      have HSA := hidD (HS3'.out.past HB46.out (Nat.le_refl _) HBU.out)
      have HSD : Hid (SlAt wr (.slice (some ⟨w3.heap.size, 0, none⟩) loc.length loc.length) (slopeS loc)) := (SlAt.row HR4.out HSL.out.symm (by omega)).past HB46.out (Nat.le_refl _) HBU.out
      have j3r : wr.cell? ⟨c, 3, none⟩ = some (.pointer (some ⟨b, 0, none⟩)) := (HBW.out.cell (p := ⟨c, 3, none⟩) HCL.out).trans hg3
      have j1r : wr.cell? ⟨c, 1, none⟩ = some (.int .i64 f) := (HBW.out.cell (p := ⟨c, 1, none⟩) HCL.out).trans h1
      have HCLr : Hid (c < wr.heap.size) := Nat.lt_of_lt_of_le HCL.out HBW.out.size
      have HGLr : Hid (gl < wr.heap.size) := Nat.lt_of_lt_of_le hgl HBW.out.size
      have hcm : wr.cell? ⟨w4.heap.size, pl, none⟩ = some (.int .u8 ((cf (amTo f p word S loc PL k) pl).toNat : Int)) := hrow.cell (by rw [HAL.out]; omega)
      have HOFk := hidD (HOF.out ((n : Int) - 1 - pl))
      clear hrow hbut hcl
      generalize hA : lowS p (mulS 29 S loc) = A at *
      generalize hD : slopeS loc = D at *
      generalize hQ : (n : Int) - 1 - (pl : Int) = q at *
      have hq1 : 0 ≤ q := by omega
      have hq2 : q ≤ 254 := by omega
      have hq3 : -70000 ≤ q * (1 - (f : Int)) ∧ q * (1 - (f : Int)) ≤ 70000 := by
        have ha : 0 ≤ q * (f : Int) := Int.mul_nonneg hq1 (by omega)
        have hb : q * (f : Int) ≤ 254 * 254 := Int.mul_le_mul hq2 (by omega) (by omega) (by omega)
        rw [Int.mul_sub, Int.mul_one]
        omega
      clear hQ
      go_wp2_with (go_at_call 40; refine (exp_any (P := 29) (g := 2) (-q) _ HFDr.out).mono ?_; rintro e w7 ⟨rfl, hb7⟩; have HB7 := hidD hb7; clear hb7)
      have HKK : Hid (∀ wB, Below w7.heap.size w7 wB → ∃ i : KB w7 [c], wB = i.v) := fun wB hb => ⟨⟨wB, fun x hx => by
        rw [show x = c by simpa using hx]
        exact hb.block _ (Nat.lt_of_lt_of_le HCLr.out HB7.out.size)⟩, rfl⟩
      have f3 : ∀ i : KB w7 [c], i.v.cell? ⟨c, 3, none⟩ = some (.pointer (some ⟨b, 0, none⟩)) := fun i => ((i.cell (b := c) (by simp) _).trans (HB7.out.cell (p := ⟨c, 3, none⟩) HCLr.out)).trans j3r
      have HDR : Hid (Below w7.heap.size w7 w7.drew) := (Below.refl _ _).drew
      generalize hX : pwI 29 2 (-q) = X at *
      refine wp_region_seg [0, 0, 0, 0, 0, 0, 0, 0, 0, 0, 1, 0, 0, 0, 0, 0, 0, 3, 5, 6, 6, 6, 6, 6] 3 24 [c] (by kernel_rfl) (by kernel_rfl) (by kernel_rfl) (by kernel_rfl) (by kernel_rfl) (by kernel_rfl) (by kernel_rfl) (by kernel_rfl) (fun _ _ _ _ _ h => h) ?_
      simp only [SegW, pk, Nat.reduceMul, Nat.reduceAdd, Nat.reduceBEq, cond_true, cond_false]
      repeat (go_big_quiet_step (fail))
      refine wpQuiet_nil ?_
      go_wp2_with (go_at_call 39; refine (eval_any one_d A X _ _ (HFDr.out.next (Below.next HB7.out HDR.out)) (HSA.out.next (Below.next HB7.out HDR.out))).mono ?_; rintro e w8 ⟨rfl, hb8⟩)
      have HB8 : Hid (Below w7.heap.size w7 w8) := HDR.out.trans hb8
      clear hb8
      refine ⟨HKK.out _ HB8.out, ?_⟩
      repeat (go_big_quiet_step (fail))
      refine wpQuiet_nil ?_
      go_wp2_with (go_at_call 39; refine (eval_any one_d D X _ _ (HFDr.out.next (Below.next HB7.out HB8.out)) (HSD.out.next (Below.next HB7.out HB8.out))).mono ?_; rintro e w9 ⟨rfl, hb9⟩)
      have HB9 : Hid (Below w7.heap.size w7 w9) := Below.next HB8.out hb9
      clear hb9
      refine ⟨HKK.out _ HB9.out, ?_⟩
      repeat (go_big_quiet_step (fail))
      refine wpQuiet_nil ?_
      go_wp2_with (go_at_call 70; refine (divZ_any (evalS 29 X A) (evalS 29 X D) _ (HFDr.out.next (Below.next HB7.out HB9.out))).mono ?_; rintro e wa ⟨z, rfl, hba⟩)
      have HBa : Hid (Below w7.heap.size w7 wa) := Below.next HB9.out hba
      clear hba
      refine ⟨HKK.out _ HBa.out, ?_⟩
      repeat (go_big_quiet_step (fail))
      refine wpQuiet_nil ?_
      go_wp2_with fail
      have HBra : Hid (Below wr.heap.size wr wa) := Below.next HB7.out HBa.out
      have HRWa := hidD (HRW.out.next HBra.out)
      have HKKa : Hid (∀ wB, Below wa.heap.size wa wB → ∃ i : KB wa [c, gl, w4.heap.size], wB = i.v) := fun wB hb => ⟨⟨wB, fun x hx => by
        have hx' : x = c ∨ x = gl ∨ x = w4.heap.size := by simpa using hx
        rcases hx' with rfl | rfl | rfl
        · exact hb.block _ (Nat.lt_of_lt_of_le HCLr.out HBra.out.size)
        · exact hb.block _ (Nat.lt_of_lt_of_le HGLr.out HBra.out.size)
        · exact hb.block _ HRWa.out.lt⟩, rfl⟩
      have e1 : ∀ i : KB wa [c, gl, w4.heap.size], i.v.cell? ⟨c, 1, none⟩ = some (.int .i64 f) := fun i => ((i.cell (b := c) (by simp) _).trans (HBra.out.cell (p := ⟨c, 1, none⟩) HCLr.out)).trans j1r
      have e3 : ∀ i : KB wa [c, gl, w4.heap.size], i.v.cell? ⟨c, 3, none⟩ = some (.pointer (some ⟨b, 0, none⟩)) := fun i => ((i.cell (b := c) (by simp) _).trans (HBra.out.cell (p := ⟨c, 3, none⟩) HCLr.out)).trans j3r
      have ep : ∀ i : KB wa [c, gl, w4.heap.size], i.v.cell? ⟨gl, ol + k, none⟩ = some (.int .i64 (pl : Int)) := fun i => ((i.cell (b := gl) (by simp) _).trans (HBra.out.cell (p := ⟨gl, _, none⟩) HGLr.out)).trans hcx
      have em : ∀ i : KB wa [c, gl, w4.heap.size], i.v.cell? ⟨w4.heap.size, pl, none⟩ = some (.int .u8 ((cf (amTo f p word S loc PL k) pl).toNat : Int)) := fun i => ((i.cell (b := w4.heap.size) (by simp) _).trans (HBra.out.cell (p := ⟨w4.heap.size, pl, none⟩) HRW.out.lt)).trans hcm
      have HDRa : Hid (Below wa.heap.size wa wa.drew) := (Below.refl _ _).drew
      generalize hOff : divZ (evalS 29 X A) (evalS 29 X D) = off at *
      have hxx := xor_u8 (cf (amTo f p word S loc PL k) pl) (bm 29 off (pwI 29 2 (q * (1 - (f : Int)))))
      rw [← HOFk.out] at hxx
      have HNW : Hid (∀ wB, RowAt wB w4.heap.size (amTo f p word S loc PL k) → RowAt (wB.setCell ⟨w4.heap.size, pl, none⟩ (.int .u8 ((cf (amTo f p word S loc PL k) pl ^^^ offS f p S loc q).toNat : Int))) w4.heap.size (amTo f p word S loc PL (k + 1))) := fun wB h => by
        rw [HASk.out]; exact h.set pl _
      have HMU := hidD (fun w' (h : FdAt w' b 29 2) => mul_any one_d off (pwI 29 2 (q * (1 - (f : Int)))) w' h)
      have HEX := hidD (fun w' (h : FdAt w' b 29 2) => exp_any (q * (1 - (f : Int))) w' h)
      rw [← HOFk.out] at HMU
      generalize (cf (amTo f p word S loc PL k) pl ^^^ offS f p S loc q).toNat = y1 at *
      generalize (cf (amTo f p word S loc PL k) pl).toNat = y2 at *
      generalize (offS f p S loc q).toNat = y3 at *
      generalize hZ : pwI 29 2 (q * (1 - (f : Int))) = Z at *
      generalize hW : q * (1 - (f : Int)) = qq at *
      have hqq1 := hq3.1
      have hqq2 := hq3.2
      generalize off.toNat = of' at *
      generalize Z.toNat = zz at *
      refine wp_region_seg [0, 0, 0, 0, 0, 0, 0, 0, 0, 0, 0, 0, 0, 0, 0, 0, 0, 0, 0, 0, 0, 0, 0, 1, 3, 4, 4, 99] 2 27 [c, gl, w4.heap.size] (by kernel_rfl) (by kernel_rfl) (by kernel_rfl) (by kernel_rfl) (by kernel_rfl) (by kernel_rfl) (by kernel_rfl) (by kernel_rfl) (fun _ _ _ _ _ h => h) ?_
      simp only [SegW, pk, Nat.reduceMul, Nat.reduceAdd, Nat.reduceBEq, cond_true, cond_false]
      repeat (go_big_quiet_step (fail))
      refine wpQuiet_nil ?_
      go_wp2_with (go_at_call 40; refine (HEX.out _ (HFDr.out.next (Below.next HBra.out HDRa.out))).mono ?_; rintro e wb ⟨rfl, hbb⟩)
      have HBb : Hid (Below wa.heap.size wa wb) := HDRa.out.trans hbb
      clear hbb
      refine ⟨HKKa.out _ HBb.out, ?_⟩
      repeat (go_big_quiet_step (fail))
      refine wpQuiet_nil ?_
      go_wp2_with (go_at_call 54; refine (HMU.out _ (HFDr.out.next (Below.next HBra.out HBb.out))).mono ?_; rintro e wc ⟨rfl, hbc⟩)
      have HBc : Hid (Below wa.heap.size wa wc) := Below.next HBb.out hbc
      clear hbc
      refine ⟨HKKa.out _ HBc.out, ?_⟩
      repeat (go_big_quiet_step (fail))
      refine wpQuiet_nil ?_
      have HRWc := hidD (HRWa.out.next HBc.out)
      obtain ⟨uc, kc⟩ : ∃ u, wc.cell? ⟨w4.heap.size, pl, none⟩ = some u := ⟨_, HRWc.out.cell (by rw [HAL.out]; omega)⟩
      have lc := HRWc.out.frozen pl
      have HNWc := hidD (HNW.out _ HRWc.out)
      go_wp2_with fail
      go_roundw
      case rel => exact ⟨k + 1, by omega, by go_num, HNWc.out, (HBU.out.trans (But.of (Below.next HBra.out HBc.out) (Nat.le_of_lt HRW.out.lt))).put pl _⟩
      case measure => simp [intOf]; omega
    · obtain rfl : k = m := by omega
      clear hrow hbut
      go_wp2_with fail
      go_ret
      exact ⟨w4.heap.size, rfl, HG4.out, HRW.out, HBW.out⟩
end Go.Proofs.Ytdpkeffkpecmjaa
