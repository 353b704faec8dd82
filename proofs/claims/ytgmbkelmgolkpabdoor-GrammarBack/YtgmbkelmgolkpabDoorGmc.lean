/- What First answers. -/
import Derived.Test.YtgmbkelmgolkpabDoorGmb
namespace Go.Proofs.YtgmbkelmgolkpabDoor
open Go.RowKit
set_option linter.unusedVariables false

theorem GmAt.but {w w' : World} {p g : Nat} {G : Gs} (h : GmAt w p G) (hb : But g w w') (hn : p ≠ g) : GmAt w' p G := by
  obtain ⟨cs, h1, h2⟩ := h.cs
  exact ⟨h.few, cs, (hb.rest p h1.lt hn).trans h1, h2⟩
/-- What something that these become can begin with. -/
def fiS (G : Gs) : List Int → Nat
  | [] => 0
  | x :: r => G.bg x.toNat ||| (if G.nul.testBit x.toNat then fiS G r else 0)
/-- What the first k begin with. -/
def fiTo (G : Gs) (l : List Int) : Nat → Nat
  | 0 => 0
  | k + 1 => fiTo G l k ||| G.bg (l.getD k 0).toNat
theorem fi_split (G : Gs) (l : List Int) : ∀ k, k ≤ l.length → (∀ j, j < k → G.nul.testBit (l.getD j 0).toNat = true) → fiS G l = fiTo G l k ||| fiS G (l.drop k)
  | 0, _, _ => by rw [List.drop_zero]; show _ = 0 ||| _; rw [Nat.zero_or]
  | k + 1, hk, h => by
    rw [fi_split G l k (by omega) (fun j hj => h j (by omega)), List.drop_eq_getElem_cons (show k < l.length by omega)]
    have hg : l.getD k 0 = l[k] := by rw [List.getD_eq_getElem?_getD, List.getElem?_eq_getElem (show k < l.length by omega)]; rfl
    have hk2 := h k (by omega)
    rw [hg] at hk2
    show _ ||| (G.bg l[k].toNat ||| (if G.nul.testBit l[k].toNat then fiS G (l.drop (k + 1)) else 0)) = (fiTo G l k ||| G.bg (l.getD k 0).toNat) ||| _
    rw [if_pos hk2, hg, Nat.or_assoc]
theorem fi_stop (G : Gs) (l : List Int) (k : Nat) (hk : k < l.length) (h : ∀ j, j < k → G.nul.testBit (l.getD j 0).toNat = true) (hn : G.nul.testBit (l.getD k 0).toNat = false) : fiS G l = fiTo G l (k + 1) := by
  rw [fi_split G l k (by omega) h, List.drop_eq_getElem_cons hk]
  have hg : l.getD k 0 = l[k] := by rw [List.getD_eq_getElem?_getD, List.getElem?_eq_getElem hk]; rfl
  rw [hg] at hn
  show _ ||| (G.bg l[k].toNat ||| (if G.nul.testBit l[k].toNat then fiS G (l.drop (k + 1)) else 0)) = fiTo G l k ||| G.bg (l.getD k 0).toNat
  rw [if_neg (by rw [hn]; decide), hg, Nat.or_zero]
theorem fi_all (G : Gs) (l : List Int) (h : ∀ j, j < l.length → G.nul.testBit (l.getD j 0).toNat = true) : fiS G l = fiTo G l l.length := by
  rw [fi_split G l l.length (Nat.le_refl _) h, List.drop_length]
  show _ ||| 0 = _
  rw [Nat.or_zero]
theorem setC_twice (cs : Array Value) (o A B : Nat) (h : o + 1 < cs.size) (hB : B < Top) : setC (setC cs o A) o B = setC cs o B :=
  setC_ext (setC_same (by rw [setC_size]; exact h) hB) (by rw [setC_size, setC_size]) fun i h0 h1 => by rw [setC_other _ _ _ _ h0 h1, setC_other _ _ _ _ h0 h1]
theorem zero_set : setV 0 = .agg #[.int .u64 0, .int .u64 0] := rfl
theorem Tryd.zero61 : (Tryd.prog.info? 61).map (fun i => (i.zero, i.size)) = some (some (.agg #[.int .u64 0, .int .u64 0]), 2) := by kernel_rfl
set_option maxRecDepth 100000 in
set_option maxHeartbeats 1600000 in
theorem first_no {p : Nat} {G : Gs} (l : List Int) (hl : l.length ≤ 9223372036854775806) (k0 : Nat) (hk0 : k0 < l.length) (hno : hasS G (l.getD k0 0) = false) (v : Value) (w : World) (h : GmAt w p G) (hv : IlAt w v l) : Calls Tryd.prog 14 #[.pointer (some ⟨p, 0, none⟩), v] w fun e w' => e = .returned (.slice none 0 0) ∧ Below w.heap.size w w' := by
  obtain ⟨a, c, rfl, hc1, hc2, hcell⟩ := hv
  have HCE := hidD hcell
  have HHA := hidD (fun (x : Int) => has_any x w h)
  have HN0 := hidD hno
  clear hcell h hno
  generalize l.length = n at *
  go_enter Tryd.func14, Tryd.ntmps14
  go_wp2_with fail
  go_loopw [12] (fun i wr => ∃ k : Nat, k ≤ n ∧ k ≤ k0 ∧ i = .int .i64 k ∧ wr = w) (fun i _ => n - (intOf i).toNat)
  case atStart => exact ⟨0, Nat.zero_le _, Nat.zero_le _, rfl, rfl⟩
  case round =>
    obtain ⟨k, hk, hkk, rfl, hw⟩ := hrel
    subst wr
    have hlt : k < n := by omega
    have hlti : (k : Int) < n := by omega
    obtain ⟨gl, ol, rfl, hgl, hcl⟩ := HCE.out k hlt
    have HHK := hidD (HHA.out (l.getD k 0))
    cases hh : hasS G (l.getD k 0) with
    | false =>
      rw [hh] at HHK
      generalize l.getD k 0 = x at *
      clear hh
      go_wp2_with (go_at_call 35; refine HHK.out.mono ?_; rintro e w2 ⟨rfl, hw⟩; subst w2)
      go_ret
      exact ⟨rfl, Below.refl _ _⟩
    | true =>
      have hne : k ≠ k0 := fun e => by rw [e, HN0.out] at hh; cases hh
      rw [hh] at HHK
      generalize l.getD k 0 = x at *
      clear hh
      go_wp2_with (go_at_call 35; refine HHK.out.mono ?_; rintro e w2 ⟨rfl, hw⟩; subst w2)
      go_roundw
      case rel => exact ⟨k + 1, by omega, by omega, by go_num, by first | rfl | trivial⟩
      case measure => simp [intOf]; omega
set_option maxRecDepth 100000 in
set_option maxHeartbeats 3200000 in
theorem first_any {p : Nat} {G : Gs} (l : List Int) (hl : l.length ≤ 9223372036854775806) (hall : ∀ k, k < l.length → hasS G (l.getD k 0) = true) (v : Value) (w : World) (h : GmAt w p G) (hv : IlAt w v l) : Calls Tryd.prog 14 #[.pointer (some ⟨p, 0, none⟩), v] w fun e w' => ∃ u, e = .returned u ∧ IlAt w' u (liTo (fiS G l) 128) ∧ Below w.heap.size w w' := by
  have HG := hidD h
  have HV := hidD hv
  obtain ⟨a, c, rfl, hc1, hc2, hcell⟩ := hv
  have HCE := hidD hcell
  have HHA := hidD (fun (x : Int) => has_any x w h)
  have HAL := hidD hall
  have HHN := hidD (fun x => has_nat (G := G) (x := x))
  have hn := h.few
  have htop := h.cnul.top
  have HHS := hidD (fun s hs w' => setHas_any G.nul htop s hs w')
  have HBT : Hid (∀ x, x < 128 → G.bg x < Top) := fun x hx => (h.cbg hx).top
  have HLI := hidD (fun M hM w' => setList_any M hM w')
  have HFS := hidD (fun k => fi_stop G l k)
  have HFA := hidD (fi_all G l)
  have HFN : Hid (∀ k, fiTo G l (k + 1) = fiTo G l k ||| G.bg (l.getD k 0).toNat) := fun k => rfl
  have HPL := hidD (row_lt (show w.heap[p]? = _ from h.cs.choose_spec.1))
  obtain ⟨hz, hsz⟩ := zero_of_info Tryd.zero61
  clear hcell h hall
  generalize l.length = n at *
  go_enter Tryd.func14, Tryd.ntmps14
  go_wp2_with fail
  go_loopw [12] (fun i wr => ∃ k : Nat, k ≤ n ∧ i = .int .i64 k ∧ wr = w) (fun i _ => n - (intOf i).toNat)
  case atStart => exact ⟨0, Nat.zero_le _, rfl, rfl⟩
  case round =>
    obtain ⟨k, hk, rfl, hw⟩ := hrel
    subst wr
    by_cases hlt : k < n
    · have hlti : (k : Int) < n := by omega
      obtain ⟨gl, ol, rfl, hgl, hcl⟩ := HCE.out k hlt
      have HHK := hidD (HHA.out (l.getD k 0))
      rw [HAL.out k hlt] at HHK
      generalize l.getD k 0 = x at *
      go_wp2_with (go_at_call 35; refine HHK.out.mono ?_; rintro e w2 ⟨rfl, hw⟩; subst w2)
      go_roundw
      case rel => exact ⟨k + 1, by omega, by go_num, by first | rfl | trivial⟩
      case measure => simp [intOf]; omega
    · obtain rfl : n = k := by omega
      go_wp2_with fail
      have HCS0 : Hid (CsAt (w.alloc (.cells #[.int .u64 0, .int .u64 0] (61 : TypeId))) w.heap.size (setC #[.int .u64 0, .int .u64 0] 0 (fiTo G l 0)) 61) := by
        show (w.alloc (.cells #[.int .u64 0, .int .u64 0] (61 : TypeId))).heap[w.heap.size]? = some (.cells (setC #[.int .u64 0, .int .u64 0] 0 0) (61 : TypeId) (0, 0))
        rw [show setC #[.int .u64 0, .int .u64 0] 0 0 = #[.int .u64 0, .int .u64 0] from rfl]
        exact heap_alloc_last _ _
      have HBU0 : Hid (But w.heap.size w (w.alloc (.cells #[.int .u64 0, .int .u64 0] (61 : TypeId)))) := But.of ((Below.refl _ _).alloc (Nat.le_refl _) _) (Nat.le_refl _)
      have HFT : Hid (∀ k, k ≤ n → fiTo G l k < Top) := fun k => by
        induction k with
        | zero => intro _; show (0 : Nat) < Top; decide
        | succ k ih =>
          intro hk
          obtain ⟨s, hs, hsn⟩ := HHN.out _ (HAL.out k (by omega))
          rw [HFN.out, hs, Int.toNat_natCast]
          exact or_top (ih (by omega)) (HBT.out s (by omega))
      have HSI : Hid (∀ M, M < Top → SetIn (setC #[.int .u64 0, .int .u64 0] 0 M) 0 M) := fun M hM => setC_same (by decide) hM
      have HST : Hid (∀ A B, B < Top → setC (setC #[.int .u64 0, .int .u64 0] 0 A) 0 B = setC #[.int .u64 0, .int .u64 0] 0 B) := fun A B hB => setC_twice _ 0 A B (by decide) hB
      have HJ := hidD (fun A B (hA : A < Top) (hB : B < Top) w' (hc : CsAt w' w.heap.size (setC #[.int .u64 0, .int .u64 0] 0 A) 61) => setJoin_any A B w.heap.size 0 hB w' hc (HSI.out A hA))
      have HGL : Hid (p ≠ w.heap.size) := by have := HPL.out; show p ≠ _; omega
      generalize hw1 : (w.alloc (.cells #[.int .u64 0, .int .u64 0] (61 : TypeId))) = w1 at *
      clear hw1
      generalize hgg : w.heap.size = g at *
      have HGG := hidD hgg
      clear hgg
      go_loopw [23] (fun i wr => ∃ k : Nat, k ≤ n ∧ i = .int .i64 k ∧ (∀ j, j < k → G.nul.testBit (l.getD j 0).toNat = true) ∧ CsAt wr g (setC #[.int .u64 0, .int .u64 0] 0 (fiTo G l k)) 61 ∧ But g w wr) (fun i _ => n - (intOf i).toNat)
      case atStart => exact ⟨0, Nat.zero_le _, rfl, fun j hj => absurd hj (by omega), HCS0.out, HBU0.out⟩
      case round =>
        obtain ⟨k, hk, rfl, hnul, hcs, hbut⟩ := hrel
        have HNU := hidD hnul
        have HCS := hidD hcs
        have HBU := hidD hbut
        clear hnul
        by_cases hlt : k < n
        · have hlti : (k : Int) < n := by omega
          obtain ⟨gl, ol, rfl, hgl, hcl⟩ := HCE.out k hlt
          obtain ⟨s, hs, hsn⟩ := HHN.out _ (HAL.out k hlt)
          rw [hs] at hcl
          have hs128 : s < 128 := by omega
          have hsi : (s : Int) < 128 := by omega
          have f1 : wr.cell? ⟨gl, ol + k, none⟩ = some (.int .i64 (s : Int)) := (hbut.cell (by rw [HGG.out]; exact hgl) (by omega)).trans hcl
          have HGW := hidD (HG.out.but hbut HGL.out)
          have f2 := (HGW.out.cbg hs128).c0
          have f3 := (HGW.out.cbg hs128).c1
          have HJK := hidD (HJ.out _ _ (HFT.out k hk) (HBT.out s hs128) wr HCS.out)
          have HFK : Hid (fiTo G l (k + 1) = fiTo G l k ||| G.bg s) := by show _ = _; rw [HFN.out, hs, Int.toNat_natCast]
          rw [HST.out _ _ (or_top (HFT.out k hk) (HBT.out s hs128)), ← HFK.out] at HJK
          have HHK := hidD (fun w' => HHS.out s hs128 w')
          have HNK : Hid (G.nul.testBit (l.getD k 0).toNat = G.nul.testBit s) := by show _ = _; rw [hs, Int.toNat_natCast]
          unfold setV at HJK HHK
          have HC2 : Hid (∀ w', GmAt w' p G → w'.cell? ⟨p, 5, none⟩ = some (.int .u64 (lw G.nul : Int)) ∧ w'.cell? ⟨p, 6, none⟩ = some (.int .u64 (hw G.nul : Int))) := fun w' h => ⟨h.cnul.c0, h.cnul.c1⟩
          generalize lw (G.bg s) = b0 at *
          generalize hw (G.bg s) = b1 at *
          generalize lw G.nul = n0 at *
          generalize hw G.nul = n1 at *
          clear hcs hbut hcl
          cases hb : G.nul.testBit s with
          | true =>
            rw [hb] at HHK HNK
            clear hb hs
            go_wp2_with (first
              | (go_at_call 37; refine HJK.out.mono ?_; rintro e w5 ⟨rfl, hc5, hb5⟩; have HC5 := hidD hc5; have HB5 := hidD (HBU.out.trans hb5); obtain ⟨f4, f5⟩ := HC2.out _ (HGW.out.but hb5 HGL.out); clear hc5 hb5)
              | (go_at_call 34; refine (HHK.out _).mono ?_; rintro e w6 ⟨rfl, hb6⟩; have HC6 := hidD (HC5.out.next hb6); have HB6 := hidD (HB5.out.next hb6 (Nat.le_of_eq HGG.out.symm)); clear hb6))
            go_roundw
            case rel => exact ⟨k + 1, by omega, by go_num, fun j hj => by
              by_cases h : j = k
              · rw [h]; exact HNK.out
              · exact HNU.out j (by omega), HC6.out, HB6.out⟩
            case measure => simp [intOf]; omega
          | false =>
            rw [hb] at HHK HNK
            have HFE := hidD (HFS.out k hlt HNU.out HNK.out)
            have HTP := hidD (HFT.out (k + 1) (by omega))
            have HL1 := hidD (fun w' => HLI.out _ HTP.out w')
            have HS1 := hidD (HSI.out _ HTP.out)
            rw [← HFE.out] at HL1 HS1 HJK
            unfold setV at HL1
            have HE0 := hidD HS1.out.c0
            have HE1 := hidD HS1.out.c1
            generalize lw (fiS G l) = m0 at *
            generalize hw (fiS G l) = m1 at *
            generalize setC #[.int .u64 0, .int .u64 0] 0 (fiS G l) = CS at *
            clear hb hs
            go_wp2_with (first
              | (go_at_call 37; refine HJK.out.mono ?_; rintro e w5 ⟨rfl, hc5, hb5⟩; have HC5 := hidD hc5; have HB5 := hidD (HBU.out.trans hb5); obtain ⟨f4, f5⟩ := HC2.out _ (HGW.out.but hb5 HGL.out); clear hc5 hb5)
              | (go_at_call 34; refine (HHK.out _).mono ?_; rintro e w6 ⟨rfl, hb6⟩; have hC6 := HC5.out.next hb6; have f6 : w6.cell? ⟨g, 0, none⟩ = some (.int .u64 (m0 : Int)) := (hC6.cell 0).trans HE0.out; have f7 : w6.cell? ⟨g, 1, none⟩ = some (.int .u64 (m1 : Int)) := (hC6.cell 1).trans HE1.out; have HB6 := hidD (HB5.out.next hb6 (Nat.le_of_eq HGG.out.symm)); clear hb6 hC6)
              | (go_at_call 38; refine (HL1.out _).mono ?_; rintro e w7 ⟨u7, rfl, hi7, hb7⟩; have HI7 := hidD hi7; have HB7 := hidD (HB6.out.next hb7 (Nat.le_of_eq HGG.out.symm)); clear hi7 hb7))
            go_ret
            exact ⟨_, rfl, HI7.out, by rw [HGG.out]; exact HB7.out.bel⟩
        · obtain rfl : n = k := by omega
          have HFE := hidD (HFA.out HNU.out)
          have HTP := hidD (HFT.out n (Nat.le_refl _))
          have HL1 := hidD (fun w' => HLI.out _ HTP.out w')
          have HS1 := hidD (HSI.out _ HTP.out)
          rw [← HFE.out] at HL1 HS1 HCS
          unfold setV at HL1
          have f6 : wr.cell? ⟨g, 0, none⟩ = some (.int .u64 (lw (fiS G l) : Int)) := (HCS.out.cell 0).trans HS1.out.c0
          have f7 : wr.cell? ⟨g, 1, none⟩ = some (.int .u64 (hw (fiS G l) : Int)) := (HCS.out.cell 1).trans HS1.out.c1
          generalize lw (fiS G l) = m0 at *
          generalize hw (fiS G l) = m1 at *
          clear hcs hbut
          go_wp2_with (go_at_call 38; refine (HL1.out _).mono ?_; rintro e w7 ⟨u7, rfl, hi7, hb7⟩; have HI7 := hidD hi7; have HB7 := hidD (HBU.out.next hb7 (Nat.le_of_eq HGG.out.symm)); clear hi7 hb7)
          go_ret
          exact ⟨_, rfl, HI7.out, by rw [HGG.out]; exact HB7.out.bel⟩
end Go.Proofs.YtgmbkelmgolkpabDoor
