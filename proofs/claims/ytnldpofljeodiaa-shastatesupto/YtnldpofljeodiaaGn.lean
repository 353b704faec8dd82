/- Texts of one proof, one behind the other. -/
import Derived.Test.YtnldpofljeodiaaGg
import Derived.Test.YtnldpofljeodiaaGl
import Derived.Deep.AppendLies
import Derived.Test.YtnldpofljeodiaaGk
/- What mac, Mac and Extract of the document's answer for layer 8 answer. -/
namespace Go.Proofs.Ytnldpofljeodiaa
open Go.RowKit
set_option linter.unusedVariables false

theorem mk_sha (k : Nat) (key M : List UInt8) : mkL k key M = shaL k (kmL k key 92 ++ shaL k (kmL k key 54 ++ M)) := by
  unfold mkL mkP mcP shaL keyP
  rw [feed_app, feed_app]; rfl
def kmR (L : List UInt8) (m : UInt8) (n : Nat) : List Value := (List.range n).map fun i => encB (L.getD i 0 ^^^ m)
theorem kmR_next (L : List UInt8) (m : UInt8) (n : Nat) : kmR L m (n + 1) = kmR L m n ++ [encB (L.getD n 0 ^^^ m)] := by simp [kmR, List.range_succ]
theorem kmR_all (k : Nat) (L : List UInt8) (m : UInt8) : kmR (padK k L) m (blkN k) = (kmL k L m).map encB := by
  unfold kmR kmL; rw [List.map_map]; rfl
/- two rows that lie apart -/
def Apart (u v : Value) : Prop := u.ownBlock = none ∨ u.ownBlock ≠ v.ownBlock
theorem Apart.symm {u v : Value} (h : Apart u v) : Apart v u := by
  rcases h with h | h
  · unfold Apart; rw [h]
    cases v.ownBlock <;> simp
  · exact .inr (Ne.symm h)
theorem Apart.grow {u v : Value} (h : Apart u v) {w : World} {B g n m c : Nat} {ys : List Value} (hv : w.ownsRow B 5 1 v m ys) (hat : u.ownBlock = some g ∨ g = w.heap.size) : Apart (.slice (some ⟨g, 0, none⟩) n c) v := by
  right
  show some g ≠ v.ownBlock
  rcases hat with hat | hat
  · rcases h with h | h
    · rw [h] at hat; cases hat
    · rw [← hat]; exact h
  · intro he
    have := (hv.lt g he.symm).2
    omega
theorem Calls.at_world {P : Program} {f : FuncId} {args : Array Value} {w w' : World} {Q : Ending → World → Prop} (h : w' = w) (hk : Calls P f args w' Q) : Calls P f args w Q := h ▸ hk
set_option maxRecDepth 100000 in
set_option maxHeartbeats 2000000 in
theorem rMac_any (k : Nat) (hk : Kind k) (key M : List UInt8) (hkl : key.length ≤ 140737488354816) (hM : M.length ≤ 140737488354560) (aK aM : Option Addr) (cK cM : Nat) (g : Nat) (w : World) (hH : HkAt w g k) (hK : ByAt w (.slice aK key.length cK) key) (hB : ByAt w (.slice aM M.length cM) M) : Calls Try.prog 35 #[.pointer (some ⟨g, 0, none⟩), .slice aK key.length cK, .slice aM M.length cM] w (DgIs w k (mkL k key M)) := by
  obtain ⟨i5, hi5, hz50, hz51, hz52⟩ := info_parts Try.info5
  have HRES := hidD (mk_sha k key M)
  have HOF : Hid (∀ (L : List UInt8) (a : Option Addr) (cap : Nat) (w : World), L.length ≤ 140737488354816 → HkAt w g k → ByAt w (.slice a L.length cap) L → Calls Try.prog 59 #[.pointer (some ⟨g, 0, none⟩), .slice a L.length cap] w (DgIs w k (shaL k L))) := fun L a cap w h1 h2 h3 => rOf_any k hk L h1 a cap g w h2 h3
  have HSZ := hidD (rSize_any k hk)
  have hbp := blk_pos k
  have hsz : k / 8 ≤ 64 := by rcases hk with rfl | rfl | rfl | rfl <;> decide
  have HSZL := hidD (padK_le k hk key)
  have HKU := hidD (kmR_all k key 54)
  have HKV := hidD (kmR_all k key 92)
  have HLU := hidD (kmL_len k key 54)
  have HLV := hidD (kmL_len k key 92)
  have hc0 : w.cell? ⟨g, 0, none⟩ = some (.int .i64 (k : Int)) := by
    obtain ⟨vk, vh, A, vb, h1, _⟩ := hH
    rw [cell_of_row _ _ _ _ _ _ h1]; rfl
  have HHG := hidD hH
  have HBY := hidD hB
  have HBK0 : Hid (∀ L : List UInt8, padK k L = if blkN k < L.length then shaL k L else L) := fun L => rfl
  by_cases hlong : blkN k < key.length
  · have HPE : Hid (padK k key = shaL k key) := by show _ = _; rw [HBK0.out, if_pos hlong]
    have HXK := hidD (HOF.out key aK cK w hkl hH hK)
    have hli : (blkN k : Int) < (key.length : Int) := by omega
    rw [HPE.out] at HKU HKV
    have HPL : Hid ((shaL k key).length = k / 8) := shaL_len _ _
    clear hH hK hB HBK0 hk HSZL HPE hlong
    generalize hPK : shaL k key = PK at *
    clear hPK
    generalize hBK : blkN k = BK at *
    clear hBK
    generalize kmL k key 54 = KU at *
    generalize kmL k key 92 = KV at *
    generalize key.length = KL at *
    obtain ⟨SZ, hSZ⟩ : ∃ SZ : Nat, k / 8 = SZ := ⟨_, rfl⟩
    have HSZE := hidD hSZ
    rw [hSZ] at hsz HSZ
    clear hSZ
    go_enter Try.func35, Try.ntmps35
    go_wp2_with (first
      | (go_at_call 39; refine (HSZ.out _).mono ?_; rintro e wz ⟨rfl, hwz⟩; subst wz; clear HSZ)
      | (go_at_call 59; refine HXK.out.mono ?_; rintro e wl ⟨gp, LCAP, he, hgp, hgpl, hcp, hbyp, hbp0⟩; rw [HSZE.out] at hbyp he hcp; subst he; have HPB := hidD hbyp; have HWL := hidD hbp0; clear hbyp hbp0 HXK))
    have HPC : Hid (∀ q, q < SZ → wl.cell? ⟨gp, q, none⟩ = some (.int .u8 ((PK.getD q 0).toNat : Int))) := fun q hq => by
      obtain ⟨a0, c0, he, hh⟩ := HPB.out.shape
      cases he
      obtain ⟨g', o', he', _, h2⟩ := hh q (by have := HPL.out; have := HSZE.out; omega)
      cases he'
      rw [Nat.zero_add] at h2; exact h2
    have HPL2 : Hid (PK.length = SZ) := HPL.out.trans HSZE.out
    clear HPL
    have HPL := hidD HPL2.out
    clear HPL2
    clear HPB hc0
    go_loopw [10, 11, 12] (fun u v iv wr => ∃ i : Nat, i ≤ BK ∧ iv = .int .i64 (i : Int) ∧ wr.ownsRow wl.heap.size 5 1 u i (kmR PK 54 i) ∧ wr.ownsRow wl.heap.size 5 1 v i (kmR PK 92 i) ∧ Apart u v ∧ Below wl.heap.size wl wr) (fun _ _ iv _ => BK - (intOf iv).toNat)
    case atStart => exact ⟨0, by omega, rfl, World.ownsRow_nil _ _ _ _, World.ownsRow_nil _ _ _ _, .inl rfl, Below.refl _ _⟩
    case round =>
      obtain ⟨i, hi, rfl, hou, hov, hap, hbel⟩ := hrel
      obtain ⟨au, cu, hue⟩ := row_shape hou
      subst hue
      obtain ⟨av, cv, hve⟩ := row_shape hov
      subst hve
      have HOU := hidD hou
      have HOV := hidD hov
      have HAP := hidD hap
      have HBL := hidD hbel
      have hwz := hbel.size
      by_cases hlt : i < BK
      · have hlti : (i : Int) < (BK : Int) := by omega
        have HU : Hid (kmR PK 54 (i + 1) = kmR PK 54 i ++ [.int .u8 ((PK.getD i 0 ^^^ 54).toNat : Int)]) := kmR_next _ _ _
        have HV : Hid (kmR PK 92 (i + 1) = kmR PK 92 i ++ [.int .u8 ((PK.getD i 0 ^^^ 92).toNat : Int)]) := kmR_next _ _ _
        have hx1 : bits .xor .u8 ((PK.getD i 0).toNat : Int) 54 = ((PK.getD i 0 ^^^ 54).toNat : Int) := u8_xor_b _ 54
        have hx2 : bits .xor .u8 ((PK.getD i 0).toNat : Int) 92 = ((PK.getD i 0 ^^^ 92).toNat : Int) := u8_xor_b _ 92
        by_cases hkl : i < SZ
        · have hkli : (i : Int) < (SZ : Int) := by omega
          have hck := (hbel.cell (p := ⟨gp, i, none⟩) hgpl).trans (HPC.out i hkl)
          clear hou hov hap hbel
          generalize PK.getD i 0 ^^^ 54 = X54 at *
          generalize PK.getD i 0 ^^^ 92 = X92 at *
          generalize PK.getD i 0 = XC at *
          generalize hRU : kmR PK 54 i = RU at *
          generalize hRV : kmR PK 92 i = RV at *
          clear hRU hRV
          have HA1 : Hid (Below wr.heap.size wr (wr.alloc (.cells #[.int .u8 (X54.toNat : Int)] (5 : TypeId)))) := (Below.refl _ _).alloc (Nat.le_refl _) _
          go_wp2_with (first
            | (at_builtin; refine wpList_append_lies _ rfl (.tmp 43) (.tmp 46) 22 rfl wl.heap.size 5 i5 (.int .u8 0) 1 1 Try.underlying22 hi5 hz50 hz51 hz52 rfl (by decide) (.slice au i cu) i RU rfl (row_below HOU.out HA1.out) ⟨wr.heap.size, 0, none⟩ 1 1 [.int .u8 (X54.toNat : Int)] rfl rfl (new_cell1 wr _ _) (by simp [Value.oneCell']) (by omega) (by unfold maxLen; omega) (by omega) (by simp; omega) _ rfl ?_; intro g1 c1 w1 hown1 hg1 hat1 hlt1; have HN1 := hidD hown1; have HV1 := hidD ((row_below HOV.out HA1.out).kept hg1 HAP.out.symm); have HP1 := hidD (HAP.out.grow (row_below HOV.out HA1.out) hat1 (n := i + 1) (c := c1)); have HB1 := hidD (row_grown (row_below HOU.out HA1.out) (HBL.out.alloc hwz _) hg1 (by simp; omega)); have hwz1 := HB1.out.size; have HA2 : Hid (Below w1.heap.size w1 (w1.alloc (.cells #[.int .u8 (X92.toNat : Int)] (5 : TypeId)))) := (Below.refl _ _).alloc (Nat.le_refl _) _; clear hown1 hg1 hat1 HA1)
            | (at_builtin; refine wpList_append_lies _ rfl (.tmp 48) (.tmp 51) 22 rfl wl.heap.size 5 i5 (.int .u8 0) 1 1 Try.underlying22 hi5 hz50 hz51 hz52 rfl (by decide) (.slice av i cv) i RV rfl (row_below HV1.out HA2.out) ⟨w1.heap.size, 0, none⟩ 1 1 [.int .u8 (X92.toNat : Int)] rfl rfl (new_cell1 w1 _ _) (by simp [Value.oneCell']) (by omega) (by unfold maxLen; omega) (by omega) (by simp; omega) _ rfl ?_; intro g2 c2 w2 hown2 hg2 hat2 hlt2; have HN2 := hidD hown2; have HU2 := hidD ((row_below HN1.out HA2.out).kept hg2 HP1.out); have HP2 := hidD (HP1.out.symm.grow (row_below HN1.out HA2.out) hat2 (n := i + 1) (c := c2)); have HB2 := hidD (row_grown (row_below HV1.out HA2.out) (HB1.out.alloc hwz1 _) hg2 (by simp; omega)); clear hown2 hg2 hat2))
          go_roundw
          case rel =>
            first
            | exact ⟨i + 1, by omega, by go_num, by rw [HU.out]; exact HU2.out, by rw [HV.out]; exact HN2.out, HP2.out.symm, HB2.out⟩
            | ((repeat apply Exists.intro); refine And.intro ?_ rfl; exact ⟨i + 1, by omega, by go_num, by rw [HU.out]; exact HU2.out, by rw [HV.out]; exact HN2.out, HP2.out.symm, HB2.out⟩)
          case measure => simp [intOf]; omega
        · have hkli : ¬ (i : Int) < (SZ : Int) := by omega
          have h0 : PK.getD i 0 = 0 := by rw [List.getD_eq_getElem?_getD, List.getElem?_eq_none (by have := HPL.out; omega)]; rfl
          rw [h0] at HU HV hx1 hx2
          clear h0 hou hov hap hbel
          have hx1' : bits .xor .u8 (0 : Int) 54 = (((0 : UInt8) ^^^ 54).toNat : Int) := hx1
          have hx2' : bits .xor .u8 (0 : Int) 92 = (((0 : UInt8) ^^^ 92).toNat : Int) := hx2
          clear hx1 hx2
          generalize (0 : UInt8) ^^^ 54 = X54 at *
          generalize (0 : UInt8) ^^^ 92 = X92 at *
          generalize hRU : kmR PK 54 i = RU at *
          generalize hRV : kmR PK 92 i = RV at *
          clear hRU hRV
          have HA1 : Hid (Below wr.heap.size wr (wr.alloc (.cells #[.int .u8 (X54.toNat : Int)] (5 : TypeId)))) := (Below.refl _ _).alloc (Nat.le_refl _) _
          go_wp2_with (first
            | (at_builtin; refine wpList_append_lies _ rfl (.tmp 43) (.tmp 46) 22 rfl wl.heap.size 5 i5 (.int .u8 0) 1 1 Try.underlying22 hi5 hz50 hz51 hz52 rfl (by decide) (.slice au i cu) i RU rfl (row_below HOU.out HA1.out) ⟨wr.heap.size, 0, none⟩ 1 1 [.int .u8 (X54.toNat : Int)] rfl rfl (new_cell1 wr _ _) (by simp [Value.oneCell']) (by omega) (by unfold maxLen; omega) (by omega) (by simp; omega) _ rfl ?_; intro g1 c1 w1 hown1 hg1 hat1 hlt1; have HN1 := hidD hown1; have HV1 := hidD ((row_below HOV.out HA1.out).kept hg1 HAP.out.symm); have HP1 := hidD (HAP.out.grow (row_below HOV.out HA1.out) hat1 (n := i + 1) (c := c1)); have HB1 := hidD (row_grown (row_below HOU.out HA1.out) (HBL.out.alloc hwz _) hg1 (by simp; omega)); have hwz1 := HB1.out.size; have HA2 : Hid (Below w1.heap.size w1 (w1.alloc (.cells #[.int .u8 (X92.toNat : Int)] (5 : TypeId)))) := (Below.refl _ _).alloc (Nat.le_refl _) _; clear hown1 hg1 hat1 HA1)
            | (at_builtin; refine wpList_append_lies _ rfl (.tmp 48) (.tmp 51) 22 rfl wl.heap.size 5 i5 (.int .u8 0) 1 1 Try.underlying22 hi5 hz50 hz51 hz52 rfl (by decide) (.slice av i cv) i RV rfl (row_below HV1.out HA2.out) ⟨w1.heap.size, 0, none⟩ 1 1 [.int .u8 (X92.toNat : Int)] rfl rfl (new_cell1 w1 _ _) (by simp [Value.oneCell']) (by omega) (by unfold maxLen; omega) (by omega) (by simp; omega) _ rfl ?_; intro g2 c2 w2 hown2 hg2 hat2 hlt2; have HN2 := hidD hown2; have HU2 := hidD ((row_below HN1.out HA2.out).kept hg2 HP1.out); have HP2 := hidD (HP1.out.symm.grow (row_below HN1.out HA2.out) hat2 (n := i + 1) (c := c2)); have HB2 := hidD (row_grown (row_below HV1.out HA2.out) (HB1.out.alloc hwz1 _) hg2 (by simp; omega)); clear hown2 hg2 hat2))
          go_roundw
          case rel =>
            first
            | exact ⟨i + 1, by omega, by go_num, by rw [HU.out]; exact HU2.out, by rw [HV.out]; exact HN2.out, HP2.out.symm, HB2.out⟩
            | ((repeat apply Exists.intro); refine And.intro ?_ rfl; exact ⟨i + 1, by omega, by go_num, by rw [HU.out]; exact HU2.out, by rw [HV.out]; exact HN2.out, HP2.out.symm, HB2.out⟩)
          case measure => simp [intOf]; omega
      · obtain rfl : BK = i := by omega
        rw [HKU.out] at HOU
        rw [HKV.out] at HOV
        have HBW := hidD (Below.next HWL.out HBL.out)
        have HBM := hidD (HBY.out.next HBW.out)
        have hlq1 : BK + M.length ≤ 140737488355328 := by omega
        obtain ⟨N1, hN1⟩ : ∃ N1 : Nat, BK + M.length = N1 := ⟨_, rfl⟩
        have HN1 := hidD hN1
        have HL1 : Hid ((KU ++ M).length = N1) := by show _ = _; rw [List.length_append, HLU.out, hN1]
        have hlq2 : N1 ≤ 140737488354816 := by omega
        have HSL : Hid ((shaL k (KU ++ M)).length = SZ) := by show _ = _; rw [shaL_len, HSZE.out]
        have HOF1 : Hid (∀ (a : Option Addr) (cap : Nat) (w : World), HkAt w g k → ByAt w (.slice a N1 cap) (KU ++ M) → Calls Try.prog 59 #[.pointer (some ⟨g, 0, none⟩), .slice a N1 cap] w fun e w' => ∃ g' cap', e = .returned (.slice (some ⟨g', 0, none⟩) SZ cap') ∧ ByAt w' (.slice (some ⟨g', 0, none⟩) SZ cap') (shaL k (KU ++ M)) ∧ Below w.heap.size w w') := fun a cap w h1 h2 => by
          have h := HOF.out (KU ++ M) a cap w (by rw [HL1.out]; exact hlq2) h1 (by rw [HL1.out]; exact h2)
          rw [HL1.out] at h
          exact h.mono fun e w' ⟨g', cap', he, _, _, _, hby, hb⟩ => ⟨g', cap', by rw [← HSZE.out]; exact he, by rw [← HSZE.out]; exact hby, hb⟩
        clear hou hov hap hbel hN1
        generalize hSH : shaL k (KU ++ M) = SH at *
        have HSH := hidD hSH
        clear hSH
        obtain ⟨N2, hN2⟩ : ∃ N2 : Nat, BK + SZ = N2 := ⟨_, rfl⟩
        have HN2 := hidD hN2
        have HL2 : Hid ((KV ++ SH).length = N2) := by show _ = _; rw [List.length_append, HLV.out, HSL.out, hN2]
        have hlq3 : N2 ≤ 140737488354816 := by omega
        have hlq4 : BK + SH.length ≤ 140737488355328 := by have := HSL.out; omega
        have HOF2 : Hid (∀ (a : Option Addr) (cap : Nat) (w : World), HkAt w g k → ByAt w (.slice a N2 cap) (KV ++ SH) → Calls Try.prog 59 #[.pointer (some ⟨g, 0, none⟩), .slice a N2 cap] w (DgIs w k (shaL k (KV ++ SH)))) := fun a cap w h1 h2 => by
          have h := HOF.out (KV ++ SH) a cap w (by rw [HL2.out]; exact hlq3) h1 (by rw [HL2.out]; exact h2)
          rw [HL2.out] at h
          exact h
        have HLE : Hid (BK + SH.length = N2) := by show _ = _; rw [HSL.out]; exact hN2
        clear hN2 HOF
        generalize hKS : shaL k (KV ++ SH) = RES at *
        have HKS := hidD hKS
        clear hKS
        go_wp2_with (first
          | (at_builtin; refine wpList_append_by rfl (.tmp 56) (.tmp 57) rfl wl.heap.size (.slice au BK cu) BK (KU.map encB) rfl HOU.out (.slice aM M.length cM) M rfl HBM.out hlq1 hwz ?_; intro v1 w1 hown1 hg1; rw [HN1.out, ← List.map_append] at hown1; have HB1 := hidD (row_grown HOU.out HBL.out hg1 hwz); have HV1 := hidD (HOV.out.kept hg1 HAP.out.symm); have hbb := row_by (bs := KU ++ M) (by rw [HL1.out]; exact hown1); obtain ⟨a1, c1, hv1⟩ := row_shape hown1; subst hv1; have HX1 := hidD (HOF1.out a1 c1 w1 (HHG.out.next (Below.next HWL.out HB1.out)) hbb); clear hbb hg1 hown1)
          | (go_at_call 59; refine HX1.out.mono ?_; rintro e w2 ⟨g2, c2, rfl, hby2, hb2⟩; have HD2 := hidD hby2; have HV2 := hidD (row_below HV1.out hb2); have HB2 := hidD (HB1.out.trans (hb2.mono HB1.out.size)); have hwz2 := HB2.out.size; clear hby2 hb2 HX1)
          | (at_builtin; refine wpList_append_by rfl (.tmp 54) (.tmp 59) rfl wl.heap.size (.slice av BK cv) BK (KV.map encB) rfl HV2.out (.slice (some ⟨g2, 0, none⟩) SZ c2) SH rfl HD2.out hlq4 hwz2 ?_; intro v3 w3 hown3 hg3; rw [HLE.out, ← List.map_append] at hown3; have HB3 := hidD (row_grown HV2.out HB2.out hg3 hwz2); have hbb3 := row_by (bs := KV ++ SH) (by rw [HL2.out]; exact hown3); obtain ⟨a3, c3, hv3⟩ := row_shape hown3; subst hv3; have HX3 := hidD (HOF2.out a3 c3 w3 (HHG.out.next (Below.next HWL.out HB3.out)) hbb3); clear hbb3 hg3 hown3)
          | (go_at_call 59; refine HX3.out.mono ?_; rintro e w4 ⟨g4, c4, rfl, hg4, hgl4, hc4, hby4, hb4⟩))
        refine bodyPost_ret (v := .slice (some ⟨g4, 0, none⟩) (k / 8) c4) (by simp [results, Try.results35, go_sem]) rfl ?_
        have HBB := Below.next HWL.out HB3.out
        exact ⟨g4, c4, rfl, Nat.le_trans HBB.size hg4, hgl4, hc4, by rw [HRES.out]; exact hby4, Below.next HBB hb4⟩
  · have HPE : Hid (padK k key = key) := by show _ = _; rw [HBK0.out, if_neg hlong]
    have hli : ¬ (blkN k : Int) < (key.length : Int) := by omega
    rw [HPE.out] at HKU HKV
    rcases Nat.eq_zero_or_pos key.length with hz0 | hz1
    · have HPL : Hid (key.length = key.length) := rfl
      clear hH hK hB HBK0 hk HSZL HPE hlong
      generalize hBK : blkN k = BK at *
      clear hBK
      generalize kmL k key 54 = KU at *
      generalize kmL k key 92 = KV at *
      obtain ⟨LK, hLK⟩ : ∃ LK : Nat, key.length = LK := ⟨_, rfl⟩
      rw [hLK] at hz0 hli hkl ⊢
      have HPL2 : Hid (key.length = LK) := hLK
      clear HPL hLK
      have HPL := hidD HPL2.out
      clear HPL2
      obtain ⟨PK, hPK⟩ : ∃ PK : List UInt8, key = PK := ⟨_, rfl⟩
      rw [hPK] at HPL HKU HKV
      clear hPK
      obtain ⟨SZ, hSZ⟩ : ∃ SZ : Nat, k / 8 = SZ := ⟨_, rfl⟩
      have HSZE := hidD hSZ
      rw [hSZ] at hsz HSZ
      clear hSZ
      obtain ⟨wl, hwl⟩ : ∃ wl : World, wl = w := ⟨_, rfl⟩
      rw [← hwl] at hc0
      have HWL : Hid (Below w.heap.size w wl) := by show Below _ _ _; rw [hwl]; exact Below.refl _ _
      refine Calls.at_world hwl ?_
      clear hwl
      go_enter Try.func35, Try.ntmps35
      go_wp2_with (go_at_call 39; refine (HSZ.out _).mono ?_; rintro e wz ⟨rfl, hwz⟩; subst wz; clear HSZ)
      clear hc0
      go_loopw [10, 11, 12] (fun u v iv wr => ∃ i : Nat, i ≤ BK ∧ iv = .int .i64 (i : Int) ∧ wr.ownsRow wl.heap.size 5 1 u i (kmR PK 54 i) ∧ wr.ownsRow wl.heap.size 5 1 v i (kmR PK 92 i) ∧ Apart u v ∧ Below wl.heap.size wl wr) (fun _ _ iv _ => BK - (intOf iv).toNat)
      case atStart => exact ⟨0, by omega, rfl, World.ownsRow_nil _ _ _ _, World.ownsRow_nil _ _ _ _, .inl rfl, Below.refl _ _⟩
      case round =>
        obtain ⟨i, hi, rfl, hou, hov, hap, hbel⟩ := hrel
        obtain ⟨au, cu, hue⟩ := row_shape hou
        subst hue
        obtain ⟨av, cv, hve⟩ := row_shape hov
        subst hve
        have HOU := hidD hou
        have HOV := hidD hov
        have HAP := hidD hap
        have HBL := hidD hbel
        have hwz := hbel.size
        by_cases hlt : i < BK
        · have hlti : (i : Int) < (BK : Int) := by omega
          have HU : Hid (kmR PK 54 (i + 1) = kmR PK 54 i ++ [.int .u8 ((PK.getD i 0 ^^^ 54).toNat : Int)]) := kmR_next _ _ _
          have HV : Hid (kmR PK 92 (i + 1) = kmR PK 92 i ++ [.int .u8 ((PK.getD i 0 ^^^ 92).toNat : Int)]) := kmR_next _ _ _
          have hx1 : bits .xor .u8 ((PK.getD i 0).toNat : Int) 54 = ((PK.getD i 0 ^^^ 54).toNat : Int) := u8_xor_b _ 54
          have hx2 : bits .xor .u8 ((PK.getD i 0).toNat : Int) 92 = ((PK.getD i 0 ^^^ 92).toNat : Int) := u8_xor_b _ 92
          have hkl : ¬ i < LK := by omega
          have hkli : ¬ (i : Int) < (LK : Int) := by omega
          have h0 : PK.getD i 0 = 0 := by rw [List.getD_eq_getElem?_getD, List.getElem?_eq_none (by have := HPL.out; omega)]; rfl
          rw [h0] at HU HV hx1 hx2
          clear h0 hou hov hap hbel
          have hx1' : bits .xor .u8 (0 : Int) 54 = (((0 : UInt8) ^^^ 54).toNat : Int) := hx1
          have hx2' : bits .xor .u8 (0 : Int) 92 = (((0 : UInt8) ^^^ 92).toNat : Int) := hx2
          clear hx1 hx2
          generalize (0 : UInt8) ^^^ 54 = X54 at *
          generalize (0 : UInt8) ^^^ 92 = X92 at *
          generalize hRU : kmR PK 54 i = RU at *
          generalize hRV : kmR PK 92 i = RV at *
          clear hRU hRV
          have HA1 : Hid (Below wr.heap.size wr (wr.alloc (.cells #[.int .u8 (X54.toNat : Int)] (5 : TypeId)))) := (Below.refl _ _).alloc (Nat.le_refl _) _
          go_wp2_with (first
            | (at_builtin; refine wpList_append_lies _ rfl (.tmp 43) (.tmp 46) 22 rfl wl.heap.size 5 i5 (.int .u8 0) 1 1 Try.underlying22 hi5 hz50 hz51 hz52 rfl (by decide) (.slice au i cu) i RU rfl (row_below HOU.out HA1.out) ⟨wr.heap.size, 0, none⟩ 1 1 [.int .u8 (X54.toNat : Int)] rfl rfl (new_cell1 wr _ _) (by simp [Value.oneCell']) (by omega) (by unfold maxLen; omega) (by omega) (by simp; omega) _ rfl ?_; intro g1 c1 w1 hown1 hg1 hat1 hlt1; have HN1 := hidD hown1; have HV1 := hidD ((row_below HOV.out HA1.out).kept hg1 HAP.out.symm); have HP1 := hidD (HAP.out.grow (row_below HOV.out HA1.out) hat1 (n := i + 1) (c := c1)); have HB1 := hidD (row_grown (row_below HOU.out HA1.out) (HBL.out.alloc hwz _) hg1 (by simp; omega)); have hwz1 := HB1.out.size; have HA2 : Hid (Below w1.heap.size w1 (w1.alloc (.cells #[.int .u8 (X92.toNat : Int)] (5 : TypeId)))) := (Below.refl _ _).alloc (Nat.le_refl _) _; clear hown1 hg1 hat1 HA1)
            | (at_builtin; refine wpList_append_lies _ rfl (.tmp 48) (.tmp 51) 22 rfl wl.heap.size 5 i5 (.int .u8 0) 1 1 Try.underlying22 hi5 hz50 hz51 hz52 rfl (by decide) (.slice av i cv) i RV rfl (row_below HV1.out HA2.out) ⟨w1.heap.size, 0, none⟩ 1 1 [.int .u8 (X92.toNat : Int)] rfl rfl (new_cell1 w1 _ _) (by simp [Value.oneCell']) (by omega) (by unfold maxLen; omega) (by omega) (by simp; omega) _ rfl ?_; intro g2 c2 w2 hown2 hg2 hat2 hlt2; have HN2 := hidD hown2; have HU2 := hidD ((row_below HN1.out HA2.out).kept hg2 HP1.out); have HP2 := hidD (HP1.out.symm.grow (row_below HN1.out HA2.out) hat2 (n := i + 1) (c := c2)); have HB2 := hidD (row_grown (row_below HV1.out HA2.out) (HB1.out.alloc hwz1 _) hg2 (by simp; omega)); clear hown2 hg2 hat2))
          go_roundw
          case rel =>
            first
            | exact ⟨i + 1, by omega, by go_num, by rw [HU.out]; exact HU2.out, by rw [HV.out]; exact HN2.out, HP2.out.symm, HB2.out⟩
            | ((repeat apply Exists.intro); refine And.intro ?_ rfl; exact ⟨i + 1, by omega, by go_num, by rw [HU.out]; exact HU2.out, by rw [HV.out]; exact HN2.out, HP2.out.symm, HB2.out⟩)
          case measure => simp [intOf]; omega
        · obtain rfl : BK = i := by omega
          rw [HKU.out] at HOU
          rw [HKV.out] at HOV
          have HBW := hidD (Below.next HWL.out HBL.out)
          have HBM := hidD (HBY.out.next HBW.out)
          have hlq1 : BK + M.length ≤ 140737488355328 := by omega
          obtain ⟨N1, hN1⟩ : ∃ N1 : Nat, BK + M.length = N1 := ⟨_, rfl⟩
          have HN1 := hidD hN1
          have HL1 : Hid ((KU ++ M).length = N1) := by show _ = _; rw [List.length_append, HLU.out, hN1]
          have hlq2 : N1 ≤ 140737488354816 := by omega
          have HSL : Hid ((shaL k (KU ++ M)).length = SZ) := by show _ = _; rw [shaL_len, HSZE.out]
          have HOF1 : Hid (∀ (a : Option Addr) (cap : Nat) (w : World), HkAt w g k → ByAt w (.slice a N1 cap) (KU ++ M) → Calls Try.prog 59 #[.pointer (some ⟨g, 0, none⟩), .slice a N1 cap] w fun e w' => ∃ g' cap', e = .returned (.slice (some ⟨g', 0, none⟩) SZ cap') ∧ ByAt w' (.slice (some ⟨g', 0, none⟩) SZ cap') (shaL k (KU ++ M)) ∧ Below w.heap.size w w') := fun a cap w h1 h2 => by
            have h := HOF.out (KU ++ M) a cap w (by rw [HL1.out]; exact hlq2) h1 (by rw [HL1.out]; exact h2)
            rw [HL1.out] at h
            exact h.mono fun e w' ⟨g', cap', he, _, _, _, hby, hb⟩ => ⟨g', cap', by rw [← HSZE.out]; exact he, by rw [← HSZE.out]; exact hby, hb⟩
          clear hou hov hap hbel hN1
          generalize hSH : shaL k (KU ++ M) = SH at *
          have HSH := hidD hSH
          clear hSH
          obtain ⟨N2, hN2⟩ : ∃ N2 : Nat, BK + SZ = N2 := ⟨_, rfl⟩
          have HN2 := hidD hN2
          have HL2 : Hid ((KV ++ SH).length = N2) := by show _ = _; rw [List.length_append, HLV.out, HSL.out, hN2]
          have hlq3 : N2 ≤ 140737488354816 := by omega
          have hlq4 : BK + SH.length ≤ 140737488355328 := by have := HSL.out; omega
          have HOF2 : Hid (∀ (a : Option Addr) (cap : Nat) (w : World), HkAt w g k → ByAt w (.slice a N2 cap) (KV ++ SH) → Calls Try.prog 59 #[.pointer (some ⟨g, 0, none⟩), .slice a N2 cap] w (DgIs w k (shaL k (KV ++ SH)))) := fun a cap w h1 h2 => by
            have h := HOF.out (KV ++ SH) a cap w (by rw [HL2.out]; exact hlq3) h1 (by rw [HL2.out]; exact h2)
            rw [HL2.out] at h
            exact h
          have HLE : Hid (BK + SH.length = N2) := by show _ = _; rw [HSL.out]; exact hN2
          clear hN2 HOF
          generalize hKS : shaL k (KV ++ SH) = RES at *
          have HKS := hidD hKS
          clear hKS
          go_wp2_with (first
            | (at_builtin; refine wpList_append_by rfl (.tmp 56) (.tmp 57) rfl wl.heap.size (.slice au BK cu) BK (KU.map encB) rfl HOU.out (.slice aM M.length cM) M rfl HBM.out hlq1 hwz ?_; intro v1 w1 hown1 hg1; rw [HN1.out, ← List.map_append] at hown1; have HB1 := hidD (row_grown HOU.out HBL.out hg1 hwz); have HV1 := hidD (HOV.out.kept hg1 HAP.out.symm); have hbb := row_by (bs := KU ++ M) (by rw [HL1.out]; exact hown1); obtain ⟨a1, c1, hv1⟩ := row_shape hown1; subst hv1; have HX1 := hidD (HOF1.out a1 c1 w1 (HHG.out.next (Below.next HWL.out HB1.out)) hbb); clear hbb hg1 hown1)
            | (go_at_call 59; refine HX1.out.mono ?_; rintro e w2 ⟨g2, c2, rfl, hby2, hb2⟩; have HD2 := hidD hby2; have HV2 := hidD (row_below HV1.out hb2); have HB2 := hidD (HB1.out.trans (hb2.mono HB1.out.size)); have hwz2 := HB2.out.size; clear hby2 hb2 HX1)
            | (at_builtin; refine wpList_append_by rfl (.tmp 54) (.tmp 59) rfl wl.heap.size (.slice av BK cv) BK (KV.map encB) rfl HV2.out (.slice (some ⟨g2, 0, none⟩) SZ c2) SH rfl HD2.out hlq4 hwz2 ?_; intro v3 w3 hown3 hg3; rw [HLE.out, ← List.map_append] at hown3; have HB3 := hidD (row_grown HV2.out HB2.out hg3 hwz2); have hbb3 := row_by (bs := KV ++ SH) (by rw [HL2.out]; exact hown3); obtain ⟨a3, c3, hv3⟩ := row_shape hown3; subst hv3; have HX3 := hidD (HOF2.out a3 c3 w3 (HHG.out.next (Below.next HWL.out HB3.out)) hbb3); clear hbb3 hg3 hown3)
            | (go_at_call 59; refine HX3.out.mono ?_; rintro e w4 ⟨g4, c4, rfl, hg4, hgl4, hc4, hby4, hb4⟩))
          refine bodyPost_ret (v := .slice (some ⟨g4, 0, none⟩) (k / 8) c4) (by simp [results, Try.results35, go_sem]) rfl ?_
          have HBB := Below.next HWL.out HB3.out
          exact ⟨g4, c4, rfl, Nat.le_trans HBB.size hg4, hgl4, hc4, by rw [HRES.out]; exact hby4, Below.next HBB hb4⟩
    · obtain ⟨gp, op, rfl, hgpl, HPC⟩ : ∃ gp op, aK = some ⟨gp, op, none⟩ ∧ gp < w.heap.size ∧ Hid (∀ q, q < key.length → w.cell? ⟨gp, op + q, none⟩ = some (.int .u8 ((key.getD q 0).toNat : Int))) := by
        obtain ⟨a0, c0, he, hh⟩ := hK.shape
        cases he
        obtain ⟨g', o', he', h1, _⟩ := hh 0 hz1
        refine ⟨g', o', he', h1, fun q hq => ?_⟩
        obtain ⟨g2, o2, he2, _, h2⟩ := hh q hq
        rw [he'] at he2
        cases he2; exact h2
      have HPL : Hid (key.length = key.length) := rfl
      clear hH hK hB HBK0 hk HSZL HPE hlong
      generalize hBK : blkN k = BK at *
      clear hBK
      generalize kmL k key 54 = KU at *
      generalize kmL k key 92 = KV at *
      obtain ⟨LK, hLK⟩ : ∃ LK : Nat, key.length = LK := ⟨_, rfl⟩
      rw [hLK] at HPC hz1 hli hkl ⊢
      have HPL2 : Hid (key.length = LK) := hLK
      clear HPL hLK
      have HPL := hidD HPL2.out
      clear HPL2
      obtain ⟨PK, hPK⟩ : ∃ PK : List UInt8, key = PK := ⟨_, rfl⟩
      rw [hPK] at HPC HPL HKU HKV
      clear hPK
      obtain ⟨SZ, hSZ⟩ : ∃ SZ : Nat, k / 8 = SZ := ⟨_, rfl⟩
      have HSZE := hidD hSZ
      rw [hSZ] at hsz HSZ
      clear hSZ
      obtain ⟨wl, hwl⟩ : ∃ wl : World, wl = w := ⟨_, rfl⟩
      rw [← hwl] at HPC hgpl hc0
      have HWL : Hid (Below w.heap.size w wl) := by show Below _ _ _; rw [hwl]; exact Below.refl _ _
      refine Calls.at_world hwl ?_
      clear hwl
      go_enter Try.func35, Try.ntmps35
      go_wp2_with (go_at_call 39; refine (HSZ.out _).mono ?_; rintro e wz ⟨rfl, hwz⟩; subst wz; clear HSZ)
      clear hc0
      rw [show decide (BK < LK) = false from decide_eq_false (by omega)]
      go_loopw [10, 11, 12] (fun u v iv wr => ∃ i : Nat, i ≤ BK ∧ iv = .int .i64 (i : Int) ∧ wr.ownsRow wl.heap.size 5 1 u i (kmR PK 54 i) ∧ wr.ownsRow wl.heap.size 5 1 v i (kmR PK 92 i) ∧ Apart u v ∧ Below wl.heap.size wl wr) (fun _ _ iv _ => BK - (intOf iv).toNat)
      case atStart => exact ⟨0, by omega, rfl, World.ownsRow_nil _ _ _ _, World.ownsRow_nil _ _ _ _, .inl rfl, Below.refl _ _⟩
      case round =>
        obtain ⟨i, hi, rfl, hou, hov, hap, hbel⟩ := hrel
        obtain ⟨au, cu, hue⟩ := row_shape hou
        subst hue
        obtain ⟨av, cv, hve⟩ := row_shape hov
        subst hve
        have HOU := hidD hou
        have HOV := hidD hov
        have HAP := hidD hap
        have HBL := hidD hbel
        have hwz := hbel.size
        by_cases hlt : i < BK
        · have hlti : (i : Int) < (BK : Int) := by omega
          have HU : Hid (kmR PK 54 (i + 1) = kmR PK 54 i ++ [.int .u8 ((PK.getD i 0 ^^^ 54).toNat : Int)]) := kmR_next _ _ _
          have HV : Hid (kmR PK 92 (i + 1) = kmR PK 92 i ++ [.int .u8 ((PK.getD i 0 ^^^ 92).toNat : Int)]) := kmR_next _ _ _
          have hx1 : bits .xor .u8 ((PK.getD i 0).toNat : Int) 54 = ((PK.getD i 0 ^^^ 54).toNat : Int) := u8_xor_b _ 54
          have hx2 : bits .xor .u8 ((PK.getD i 0).toNat : Int) 92 = ((PK.getD i 0 ^^^ 92).toNat : Int) := u8_xor_b _ 92
          by_cases hkl : i < LK
          · have hkli : (i : Int) < (LK : Int) := by omega
            have hck := (hbel.cell (p := ⟨gp, op + i, none⟩) hgpl).trans (HPC.out i hkl)
            clear hou hov hap hbel
            generalize PK.getD i 0 ^^^ 54 = X54 at *
            generalize PK.getD i 0 ^^^ 92 = X92 at *
            generalize PK.getD i 0 = XC at *
            generalize hRU : kmR PK 54 i = RU at *
            generalize hRV : kmR PK 92 i = RV at *
            clear hRU hRV
            have HA1 : Hid (Below wr.heap.size wr (wr.alloc (.cells #[.int .u8 (X54.toNat : Int)] (5 : TypeId)))) := (Below.refl _ _).alloc (Nat.le_refl _) _
            go_wp2_with (first
              | (at_builtin; refine wpList_append_lies _ rfl (.tmp 43) (.tmp 46) 22 rfl wl.heap.size 5 i5 (.int .u8 0) 1 1 Try.underlying22 hi5 hz50 hz51 hz52 rfl (by decide) (.slice au i cu) i RU rfl (row_below HOU.out HA1.out) ⟨wr.heap.size, 0, none⟩ 1 1 [.int .u8 (X54.toNat : Int)] rfl rfl (new_cell1 wr _ _) (by simp [Value.oneCell']) (by omega) (by unfold maxLen; omega) (by omega) (by simp; omega) _ rfl ?_; intro g1 c1 w1 hown1 hg1 hat1 hlt1; have HN1 := hidD hown1; have HV1 := hidD ((row_below HOV.out HA1.out).kept hg1 HAP.out.symm); have HP1 := hidD (HAP.out.grow (row_below HOV.out HA1.out) hat1 (n := i + 1) (c := c1)); have HB1 := hidD (row_grown (row_below HOU.out HA1.out) (HBL.out.alloc hwz _) hg1 (by simp; omega)); have hwz1 := HB1.out.size; have HA2 : Hid (Below w1.heap.size w1 (w1.alloc (.cells #[.int .u8 (X92.toNat : Int)] (5 : TypeId)))) := (Below.refl _ _).alloc (Nat.le_refl _) _; clear hown1 hg1 hat1 HA1)
              | (at_builtin; refine wpList_append_lies _ rfl (.tmp 48) (.tmp 51) 22 rfl wl.heap.size 5 i5 (.int .u8 0) 1 1 Try.underlying22 hi5 hz50 hz51 hz52 rfl (by decide) (.slice av i cv) i RV rfl (row_below HV1.out HA2.out) ⟨w1.heap.size, 0, none⟩ 1 1 [.int .u8 (X92.toNat : Int)] rfl rfl (new_cell1 w1 _ _) (by simp [Value.oneCell']) (by omega) (by unfold maxLen; omega) (by omega) (by simp; omega) _ rfl ?_; intro g2 c2 w2 hown2 hg2 hat2 hlt2; have HN2 := hidD hown2; have HU2 := hidD ((row_below HN1.out HA2.out).kept hg2 HP1.out); have HP2 := hidD (HP1.out.symm.grow (row_below HN1.out HA2.out) hat2 (n := i + 1) (c := c2)); have HB2 := hidD (row_grown (row_below HV1.out HA2.out) (HB1.out.alloc hwz1 _) hg2 (by simp; omega)); clear hown2 hg2 hat2))
            go_roundw
            case rel =>
              first
              | exact ⟨i + 1, by omega, by go_num, by rw [HU.out]; exact HU2.out, by rw [HV.out]; exact HN2.out, HP2.out.symm, HB2.out⟩
              | ((repeat apply Exists.intro); refine And.intro ?_ rfl; exact ⟨i + 1, by omega, by go_num, by rw [HU.out]; exact HU2.out, by rw [HV.out]; exact HN2.out, HP2.out.symm, HB2.out⟩)
            case measure => simp [intOf]; omega
          · have hkli : ¬ (i : Int) < (LK : Int) := by omega
            have h0 : PK.getD i 0 = 0 := by rw [List.getD_eq_getElem?_getD, List.getElem?_eq_none (by have := HPL.out; omega)]; rfl
            rw [h0] at HU HV hx1 hx2
            clear h0 hou hov hap hbel
            have hx1' : bits .xor .u8 (0 : Int) 54 = (((0 : UInt8) ^^^ 54).toNat : Int) := hx1
            have hx2' : bits .xor .u8 (0 : Int) 92 = (((0 : UInt8) ^^^ 92).toNat : Int) := hx2
            clear hx1 hx2
            generalize (0 : UInt8) ^^^ 54 = X54 at *
            generalize (0 : UInt8) ^^^ 92 = X92 at *
            generalize hRU : kmR PK 54 i = RU at *
            generalize hRV : kmR PK 92 i = RV at *
            clear hRU hRV
            have HA1 : Hid (Below wr.heap.size wr (wr.alloc (.cells #[.int .u8 (X54.toNat : Int)] (5 : TypeId)))) := (Below.refl _ _).alloc (Nat.le_refl _) _
            go_wp2_with (first
              | (at_builtin; refine wpList_append_lies _ rfl (.tmp 43) (.tmp 46) 22 rfl wl.heap.size 5 i5 (.int .u8 0) 1 1 Try.underlying22 hi5 hz50 hz51 hz52 rfl (by decide) (.slice au i cu) i RU rfl (row_below HOU.out HA1.out) ⟨wr.heap.size, 0, none⟩ 1 1 [.int .u8 (X54.toNat : Int)] rfl rfl (new_cell1 wr _ _) (by simp [Value.oneCell']) (by omega) (by unfold maxLen; omega) (by omega) (by simp; omega) _ rfl ?_; intro g1 c1 w1 hown1 hg1 hat1 hlt1; have HN1 := hidD hown1; have HV1 := hidD ((row_below HOV.out HA1.out).kept hg1 HAP.out.symm); have HP1 := hidD (HAP.out.grow (row_below HOV.out HA1.out) hat1 (n := i + 1) (c := c1)); have HB1 := hidD (row_grown (row_below HOU.out HA1.out) (HBL.out.alloc hwz _) hg1 (by simp; omega)); have hwz1 := HB1.out.size; have HA2 : Hid (Below w1.heap.size w1 (w1.alloc (.cells #[.int .u8 (X92.toNat : Int)] (5 : TypeId)))) := (Below.refl _ _).alloc (Nat.le_refl _) _; clear hown1 hg1 hat1 HA1)
              | (at_builtin; refine wpList_append_lies _ rfl (.tmp 48) (.tmp 51) 22 rfl wl.heap.size 5 i5 (.int .u8 0) 1 1 Try.underlying22 hi5 hz50 hz51 hz52 rfl (by decide) (.slice av i cv) i RV rfl (row_below HV1.out HA2.out) ⟨w1.heap.size, 0, none⟩ 1 1 [.int .u8 (X92.toNat : Int)] rfl rfl (new_cell1 w1 _ _) (by simp [Value.oneCell']) (by omega) (by unfold maxLen; omega) (by omega) (by simp; omega) _ rfl ?_; intro g2 c2 w2 hown2 hg2 hat2 hlt2; have HN2 := hidD hown2; have HU2 := hidD ((row_below HN1.out HA2.out).kept hg2 HP1.out); have HP2 := hidD (HP1.out.symm.grow (row_below HN1.out HA2.out) hat2 (n := i + 1) (c := c2)); have HB2 := hidD (row_grown (row_below HV1.out HA2.out) (HB1.out.alloc hwz1 _) hg2 (by simp; omega)); clear hown2 hg2 hat2))
            go_roundw
            case rel =>
              first
              | exact ⟨i + 1, by omega, by go_num, by rw [HU.out]; exact HU2.out, by rw [HV.out]; exact HN2.out, HP2.out.symm, HB2.out⟩
              | ((repeat apply Exists.intro); refine And.intro ?_ rfl; exact ⟨i + 1, by omega, by go_num, by rw [HU.out]; exact HU2.out, by rw [HV.out]; exact HN2.out, HP2.out.symm, HB2.out⟩)
            case measure => simp [intOf]; omega
        · obtain rfl : BK = i := by omega
          rw [HKU.out] at HOU
          rw [HKV.out] at HOV
          have HBW := hidD (Below.next HWL.out HBL.out)
          have HBM := hidD (HBY.out.next HBW.out)
          have hlq1 : BK + M.length ≤ 140737488355328 := by omega
          obtain ⟨N1, hN1⟩ : ∃ N1 : Nat, BK + M.length = N1 := ⟨_, rfl⟩
          have HN1 := hidD hN1
          have HL1 : Hid ((KU ++ M).length = N1) := by show _ = _; rw [List.length_append, HLU.out, hN1]
          have hlq2 : N1 ≤ 140737488354816 := by omega
          have HSL : Hid ((shaL k (KU ++ M)).length = SZ) := by show _ = _; rw [shaL_len, HSZE.out]
          have HOF1 : Hid (∀ (a : Option Addr) (cap : Nat) (w : World), HkAt w g k → ByAt w (.slice a N1 cap) (KU ++ M) → Calls Try.prog 59 #[.pointer (some ⟨g, 0, none⟩), .slice a N1 cap] w fun e w' => ∃ g' cap', e = .returned (.slice (some ⟨g', 0, none⟩) SZ cap') ∧ ByAt w' (.slice (some ⟨g', 0, none⟩) SZ cap') (shaL k (KU ++ M)) ∧ Below w.heap.size w w') := fun a cap w h1 h2 => by
            have h := HOF.out (KU ++ M) a cap w (by rw [HL1.out]; exact hlq2) h1 (by rw [HL1.out]; exact h2)
            rw [HL1.out] at h
            exact h.mono fun e w' ⟨g', cap', he, _, _, _, hby, hb⟩ => ⟨g', cap', by rw [← HSZE.out]; exact he, by rw [← HSZE.out]; exact hby, hb⟩
          clear hou hov hap hbel hN1
          generalize hSH : shaL k (KU ++ M) = SH at *
          have HSH := hidD hSH
          clear hSH
          obtain ⟨N2, hN2⟩ : ∃ N2 : Nat, BK + SZ = N2 := ⟨_, rfl⟩
          have HN2 := hidD hN2
          have HL2 : Hid ((KV ++ SH).length = N2) := by show _ = _; rw [List.length_append, HLV.out, HSL.out, hN2]
          have hlq3 : N2 ≤ 140737488354816 := by omega
          have hlq4 : BK + SH.length ≤ 140737488355328 := by have := HSL.out; omega
          have HOF2 : Hid (∀ (a : Option Addr) (cap : Nat) (w : World), HkAt w g k → ByAt w (.slice a N2 cap) (KV ++ SH) → Calls Try.prog 59 #[.pointer (some ⟨g, 0, none⟩), .slice a N2 cap] w (DgIs w k (shaL k (KV ++ SH)))) := fun a cap w h1 h2 => by
            have h := HOF.out (KV ++ SH) a cap w (by rw [HL2.out]; exact hlq3) h1 (by rw [HL2.out]; exact h2)
            rw [HL2.out] at h
            exact h
          have HLE : Hid (BK + SH.length = N2) := by show _ = _; rw [HSL.out]; exact hN2
          clear hN2 HOF
          generalize hKS : shaL k (KV ++ SH) = RES at *
          have HKS := hidD hKS
          clear hKS
          go_wp2_with (first
            | (at_builtin; refine wpList_append_by rfl (.tmp 56) (.tmp 57) rfl wl.heap.size (.slice au BK cu) BK (KU.map encB) rfl HOU.out (.slice aM M.length cM) M rfl HBM.out hlq1 hwz ?_; intro v1 w1 hown1 hg1; rw [HN1.out, ← List.map_append] at hown1; have HB1 := hidD (row_grown HOU.out HBL.out hg1 hwz); have HV1 := hidD (HOV.out.kept hg1 HAP.out.symm); have hbb := row_by (bs := KU ++ M) (by rw [HL1.out]; exact hown1); obtain ⟨a1, c1, hv1⟩ := row_shape hown1; subst hv1; have HX1 := hidD (HOF1.out a1 c1 w1 (HHG.out.next (Below.next HWL.out HB1.out)) hbb); clear hbb hg1 hown1)
            | (go_at_call 59; refine HX1.out.mono ?_; rintro e w2 ⟨g2, c2, rfl, hby2, hb2⟩; have HD2 := hidD hby2; have HV2 := hidD (row_below HV1.out hb2); have HB2 := hidD (HB1.out.trans (hb2.mono HB1.out.size)); have hwz2 := HB2.out.size; clear hby2 hb2 HX1)
            | (at_builtin; refine wpList_append_by rfl (.tmp 54) (.tmp 59) rfl wl.heap.size (.slice av BK cv) BK (KV.map encB) rfl HV2.out (.slice (some ⟨g2, 0, none⟩) SZ c2) SH rfl HD2.out hlq4 hwz2 ?_; intro v3 w3 hown3 hg3; rw [HLE.out, ← List.map_append] at hown3; have HB3 := hidD (row_grown HV2.out HB2.out hg3 hwz2); have hbb3 := row_by (bs := KV ++ SH) (by rw [HL2.out]; exact hown3); obtain ⟨a3, c3, hv3⟩ := row_shape hown3; subst hv3; have HX3 := hidD (HOF2.out a3 c3 w3 (HHG.out.next (Below.next HWL.out HB3.out)) hbb3); clear hbb3 hg3 hown3)
            | (go_at_call 59; refine HX3.out.mono ?_; rintro e w4 ⟨g4, c4, rfl, hg4, hgl4, hc4, hby4, hb4⟩))
          refine bodyPost_ret (v := .slice (some ⟨g4, 0, none⟩) (k / 8) c4) (by simp [results, Try.results35, go_sem]) rfl ?_
          have HBB := Below.next HWL.out HB3.out
          exact ⟨g4, c4, rfl, Nat.le_trans HBB.size hg4, hgl4, hc4, by rw [HRES.out]; exact hby4, Below.next HBB hb4⟩
end Go.Proofs.Ytnldpofljeodiaa
/- What Mac, Extract and Expand of the document's answer for layer 8 answer. -/
namespace Go.Proofs.Ytnldpofljeodiaa
open Go.RowKit
set_option linter.unusedVariables false

theorem ByAt.grown {w w' : World} {row : Option Nat} {sl : Value} {bs : List UInt8} (h : ByAt w sl bs) (hg : w.grownBy w' row) (hne : ∀ g o n c, sl = .slice (some ⟨g, o, none⟩) n c → some g ≠ row) : ByAt w' sl bs := by
  rcases h with h | ⟨g, off, cap, rfl, hl, hc⟩
  · exact .inl h
  · exact .inr ⟨g, off, cap, rfl, Nat.lt_of_lt_of_le hl hg.size, fun j hj => (World.cell?_of_block (hg.block g hl (hne g off _ cap rfl))).trans (hc j hj)⟩
theorem ByAt.one (w : World) (x : UInt8) : ByAt (w.alloc (.cells #[.int .u8 (x.toNat : Int)] (5 : TypeId))) (.slice (some ⟨w.heap.size, 0, none⟩) 1 1) [x] := by
  refine .inr ⟨w.heap.size, 0, 1, rfl, by simp, fun j hj => ?_⟩
  obtain rfl : j = 0 := by simpa using hj
  rw [cell_of_row _ _ _ _ _ _ (heap_alloc_last w _)]; rfl
theorem stL_more (s : Nat) (hs : 0 < s) (pt : Nat → List UInt8) (i : Nat) (hl : (pt (i + 1)).length = s) : stL s pt (i * s) ++ pt (i + 1) = stL s pt ((i + 1) * s) := by
  have h := stL_next s hs pt i ((i + 1) * s) hl (by rw [Nat.add_mul, Nat.one_mul]; omega)
  rw [Nat.min_self, show (i + 1) * s - i * s = s by rw [Nat.add_mul, Nat.one_mul]; omega, Nat.min_self, List.take_of_length_le (by omega)] at h
  exact h
/- what a call answers that tells bytes and no error -/
def ByIs (w : World) (L : List UInt8) (e : Ending) (w' : World) : Prop := ∃ v, e = .returned (.tuple #[v, .int .i64 0]) ∧ ByAt w' v L ∧ Below w.heap.size w w'
set_option maxRecDepth 100000 in
set_option maxHeartbeats 1600000 in
theorem rMacL_any (k : Nat) (hk : Kind k) (key M : List UInt8) (hkl : key.length ≤ 140737488354816) (hM : M.length ≤ 140737488354560) (aK aM : Option Addr) (cK cM : Nat) (w : World) (hK : ByAt w (.slice aK key.length cK) key) (hB : ByAt w (.slice aM M.length cM) M) : Calls Try.prog 15 #[.int .i64 (k : Int), .slice aK key.length cK, .slice aM M.length cM] w (ByIs w (mkL k key M)) := by
  have HBG := hidD (rBegin2_any k hk)
  have HMC : Hid (∀ (g : Nat) (wA : World), HkAt wA g k → Below w.heap.size w wA → Calls Try.prog 35 #[.pointer (some ⟨g, 0, none⟩), .slice aK key.length cK, .slice aM M.length cM] wA (DgIs wA k (mkL k key M))) := fun g wA h1 h2 => rMac_any k hk key M hkl hM aK aM cK cM g wA h1 (hK.next h2) (hB.next h2)
  clear hK hB
  generalize key.length = KL at *
  generalize M.length = ML at *
  generalize mkL k key M = RES at *
  go_enter Try.func15, Try.ntmps15
  go_wp2_with (first
    | (go_at_call 31; refine (HBG.out _).mono ?_; rintro e w1 ⟨g, rfl, hg, hh, hb1⟩; have HX := hidD (HMC.out g w1 hh.hk hb1); have HB1 := hidD hb1; clear hh hb1 hg HBG HMC)
    | (go_at_call 35; refine HX.out.mono ?_; rintro e w2 ⟨g', cap', rfl, hg', hgl', hc', hby', hb'⟩))
  refine bodyPost_ret (v := .tuple #[.slice (some ⟨g', 0, none⟩) (k / 8) cap', .int .i64 0]) (by simp [results, Try.results15, go_sem]) rfl ?_
  exact ⟨_, rfl, hby', Below.next HB1.out hb'⟩
set_option maxRecDepth 100000 in
theorem rMacL_no (x : Int) (h : x ≠ 224 ∧ x ≠ 256 ∧ x ≠ 384 ∧ x ≠ 512) (u v : Value) (w : World) : Calls Try.prog 15 #[.int .i64 x, u, v] w fun e w' => e = .returned (.tuple #[.slice none 0 0, .int .i64 1]) ∧ Below w.heap.size w w' := by
  have HBG := hidD (rBegin_no x h)
  clear h
  go_enter Try.func15, Try.ntmps15
  go_wp2_with (go_at_call 31; refine (HBG.out _).mono ?_; rintro e w1 ⟨rfl, hb1⟩)
  refine bodyPost_ret (v := .tuple #[.slice none 0 0, .int .i64 1]) (by simp [results, Try.results15, go_sem]) rfl ⟨rfl, hb1⟩
set_option maxRecDepth 100000 in
theorem rExtr_of (x : Int) (u v : Value) (w : World) (Q : Value → Int → World → Prop) (h : Calls Try.prog 15 #[.int .i64 x, u, v] w fun e w' => ∃ r E, e = .returned (.tuple #[r, .int .i64 E]) ∧ Q r E w') : Calls Try.prog 17 #[.int .i64 x, u, v] w fun e w' => ∃ r E, e = .returned (.tuple #[r, .int .i64 E]) ∧ Q r E w' := by
  have H := hidD h
  clear h
  go_enter Try.func17, Try.ntmps17
  go_wp2_with (go_at_call 15; refine H.out.mono ?_; rintro e w1 ⟨r, E, rfl, hq⟩)
  refine bodyPost_ret (v := .tuple #[r, .int .i64 E]) (by simp [results, Try.results17, go_sem]) rfl ⟨r, E, rfl, hq⟩
set_option maxRecDepth 100000 in
set_option maxHeartbeats 1600000 in
theorem rExp_bad (x : Int) (u v : Value) (z : Int) (e1 : Int) (h : (e1 = 1 ∧ x ≠ 224 ∧ x ≠ 256 ∧ x ≠ 384 ∧ x ≠ 512) ∨ (∃ k : Nat, Kind k ∧ x = (k : Int) ∧ ((e1 = 1 ∧ z < 0) ∨ (e1 = 3 ∧ ¬ z < 0 ∧ 255 * ((k / 8 : Nat) : Int) < z)))) (w : World) : Calls Try.prog 19 #[.int .i64 x, u, v, .int .i64 z] w fun e w' => e = .returned (.tuple #[.slice none 0 0, .int .i64 e1]) ∧ Below w.heap.size w w' := by
  rcases h with ⟨rfl, hx⟩ | ⟨k, hk, rfl, ⟨rfl, hz⟩ | ⟨rfl, hz, hz2⟩⟩
  · have HSZ := hidD (rSize_no x hx)
    clear hx
    go_enter Try.func19, Try.ntmps19
    go_wp2_with (go_at_call 39; refine (HSZ.out _).mono ?_; rintro e wz ⟨rfl, hwz⟩; subst wz; clear HSZ)
    refine bodyPost_ret (v := .tuple #[.slice none 0 0, .int .i64 1]) (by simp [results, Try.results19, go_sem]) rfl ⟨rfl, Below.refl _ _⟩
  · have HSZ := hidD (rSize_any k hk)
    clear hk
    generalize k / 8 = k8 at *
    generalize blkN k = bk at *
    go_enter Try.func19, Try.ntmps19
    go_wp2_with (go_at_call 39; refine (HSZ.out _).mono ?_; rintro e wz ⟨rfl, hwz⟩; subst wz; clear HSZ)
    refine bodyPost_ret (v := .tuple #[.slice none 0 0, .int .i64 1]) (by simp [results, Try.results19, go_sem]) rfl ⟨rfl, Below.refl _ _⟩
  · have HSZ := hidD (rSize_any k hk)
    have hk8 : k / 8 ≤ 64 := by rcases hk with rfl | rfl | rfl | rfl <;> decide
    clear hk
    generalize k / 8 = k8 at *
    generalize blkN k = bk at *
    go_enter Try.func19, Try.ntmps19
    go_wp2_with (go_at_call 39; refine (HSZ.out _).mono ?_; rintro e wz ⟨rfl, hwz⟩; subst wz; clear HSZ)
    refine bodyPost_ret (v := .tuple #[.slice none 0 0, .int .i64 3]) (by simp [results, Try.results19, go_sem]) rfl ⟨rfl, Below.refl _ _⟩
set_option maxRecDepth 100000 in
set_option maxHeartbeats 3000000 in
theorem rExp_ok (k : Nat) (hk : Kind k) (key info : List UInt8) (hkl : key.length ≤ 140737488354816) (hIl : info.length ≤ 140737488354400) (n : Nat) (hn : n ≤ 255 * (k / 8)) (aK aI : Option Addr) (cK cI : Nat) (w : World) (hbK : ByAt w (.slice aK key.length cK) key) (hbI : ByAt w (.slice aI info.length cI) info) : Calls Try.prog 19 #[.int .i64 (k : Int), .slice aK key.length cK, .slice aI info.length cI, .int .i64 (n : Int)] w (ByIs w (stL (k / 8) (exT k key info) n)) := by
  obtain ⟨hbn, hnb, hsz0, hsz1⟩ := kd_nb k hk
  have hsz : 28 ≤ k / 8 ∧ k / 8 ≤ 64 := by omega
  have HSZ := hidD (rSize_any k hk)
  have HBG := hidD (rBegin2_any k hk)
  have HEL : Hid (∀ i, (exT k key info (i + 1)).length = k / 8) := exT_len k key info
  have HE0 : Hid (exT k key info 0 = []) := rfl
  have HEN : Hid (∀ q, exT k key info (q + 1) = mkL k key ((exT k key info q ++ info) ++ [UInt8.ofNat (q + 1)])) := fun q => by show mkL k key _ = _; rw [List.append_assoc]
  have HET : Hid (∀ q, (exT k key info q).length ≤ 64) := fun q => by
    cases q with
    | zero => show 0 ≤ 64; omega
    | succ q => rw [HEL.out]; omega
  have HST := hidD (fun i hl => stL_more (k / 8) (by omega) (exT k key info) i hl)
  have HSL := hidD (stL_len (k / 8) (exT k key info))
  have HTK := hidD (stL_take (k / 8) (exT k key info) n)
  have HMC : Hid (∀ (g : Nat) (M : List UInt8) (N : Nat) (a : Option Addr) (c : Nat) (wA : World), M.length = N → N ≤ 140737488354560 → HkAt wA g k → Below w.heap.size w wA → ByAt wA (.slice a N c) M → Calls Try.prog 35 #[.pointer (some ⟨g, 0, none⟩), .slice aK key.length cK, .slice a N c] wA fun e w' => ∃ g' cap, e = .returned (.slice (some ⟨g', 0, none⟩) (k / 8) cap) ∧ wA.heap.size ≤ g' ∧ ByAt w' (.slice (some ⟨g', 0, none⟩) (k / 8) cap) (mkL k key M) ∧ Below wA.heap.size wA w') := fun g M N a c wA hN hl h1 h2 h3 => by
    subst hN
    exact (rMac_any k hk key M hkl hl aK a cK c g wA h1 (hbK.next h2) h3).mono fun e w' ⟨g', cap, he, h4, _, _, h5, h6⟩ => ⟨g', cap, he, h4, h5, h6⟩
  have HBI := hidD hbI
  have hmul : (255 : Int) * ((k / 8 : Nat) : Int) = ((255 * (k / 8) : Nat) : Int) := by omega
  have hni : ¬ ((255 * (k / 8) : Nat) : Int) < (n : Int) := by omega
  have hni0 : ¬ (n : Int) < 0 := by omega
  clear hbK hbI hk hbn hnb hsz0 hsz1
  have hn2 : n ≤ 16320 := by omega
  generalize exT k key info = T at *
  generalize key.length = KL at *
  obtain ⟨IL, hIL⟩ : ∃ IL : Nat, info.length = IL := ⟨_, rfl⟩
  rw [hIL] at hIl HBI ⊢
  have HIL := hidD hIL
  clear hIL
  generalize k / 8 = SZ at *
  obtain ⟨N255, hN255⟩ : ∃ m : Nat, 255 * SZ = m := ⟨_, rfl⟩
  rw [hN255] at hn hmul hni
  have HN255 := hidD hN255
  clear hN255
  generalize blkN k = bk at *
  go_enter Try.func19, Try.ntmps19
  go_wp2_with (first
    | (go_at_call 39; refine (HSZ.out _).mono ?_; rintro e wz ⟨rfl, hwz⟩; subst wz; clear HSZ)
    | (go_at_call 31; refine (HBG.out _).mono ?_; rintro e w1 ⟨g, rfl, hg, hh, hb1⟩; have HHG := hidD hh.hk; have HB1 := hidD hb1; clear hh hb1 hg HBG))
  clear hni hni0 hmul
  go_loopw [15, 16, 17] (fun o tv iv wr => ∃ q : Nat, q * SZ < n + SZ ∧ iv = .int .i64 ((q : Int) + 1) ∧ wr.ownsRow w1.heap.size 5 1 o (q * SZ) ((stL SZ T (q * SZ)).map encB) ∧ ByAt wr tv (T q) ∧ Below w1.heap.size w1 wr) (fun o _ _ _ => n + SZ - lenV o)
  case atStart => exact ⟨0, by omega, rfl, by rw [Nat.zero_mul]; exact World.ownsRow_nil _ _ _ _, by rw [HE0.out]; exact .inl ⟨rfl, none, 0, rfl, fun _ => rfl⟩, Below.refl _ _⟩
  case round =>
    obtain ⟨q, hq, rfl, hown, hbt, hbel⟩ := hrel
    obtain ⟨ad, cd, hde⟩ := row_shape hown
    subst hde
    obtain ⟨at_, ct, hte, _⟩ := hbt.shape
    subst hte
    have hq255 : q ≤ 255 := by
      have h255 := HN255.out
      rcases Nat.lt_or_ge 255 q with h | h
      · have h1 : 256 * SZ ≤ q * SZ := Nat.mul_le_mul_right _ h
        omega
      · exact h
    obtain ⟨Q, hQ⟩ : ∃ Q : Nat, q * SZ = Q := ⟨_, rfl⟩
    have HQ1 : Hid ((q + 1) * SZ = Q + SZ) := by show _ = _; rw [Nat.add_mul, Nat.one_mul, hQ]
    have HSTQ := hidD (HST.out q (HEL.out q))
    have hTl := HET.out q
    rw [hQ] at hown hq HSTQ ⊢
    have HQE := hidD hQ
    clear hQ
    have HOW := hidD hown
    have HBT := hidD hbt
    have HBL := hidD hbel
    have HBW := hidD (Below.next HB1.out hbel)
    have hwz := hbel.size
    by_cases hlt : Q < n
    · have hlti : (Q : Int) < (n : Int) := by omega
      have hq254 : q ≤ 254 := by
        have h255 := HN255.out
        rcases Nat.lt_or_ge 254 q with h | h
        · have h1 : 255 * SZ ≤ q * SZ := Nat.mul_le_mul_right _ h
          have := HQE.out
          omega
        · exact h
      have HXE : Hid ((((UInt8.ofNat (q + 1)).toNat : Nat) : Int) = (q : Int) + 1) := by
        show _ = _
        rw [UInt8.toNat_ofNat']; omega
      have HTN := hidD (HEN.out q)
      have HTL := hidD (HEL.out q)
      clear hown hbt hbel hq255
      generalize UInt8.ofNat (q + 1) = X at *
      obtain ⟨TQ, hTQ⟩ : ∃ TQ : List UInt8, T q = TQ := ⟨_, rfl⟩
      rw [hTQ] at HTN HBT hTl ⊢
      clear hTQ
      obtain ⟨TL, hTL⟩ : ∃ TL : Nat, TQ.length = TL := ⟨_, rfl⟩
      rw [hTL] at HBT hTl ⊢
      have HTQL := hidD hTL
      clear hTL
      obtain ⟨N2, hN2⟩ : ∃ N2 : Nat, TL + IL = N2 := ⟨_, rfl⟩
      have hN2b : N2 ≤ 140737488354464 := by omega
      have HN2 := hidD hN2
      clear hN2
      have HL2 : Hid ((TQ ++ info).length = N2) := by show _ = _; rw [List.length_append, HTQL.out, HIL.out, HN2.out]
      have HL3 : Hid (((TQ ++ info) ++ [X]).length = N2 + 1) := by show _ = _; rw [List.length_append, HL2.out]; rfl
      have HA0 : Hid (Below wr.heap.size wr (wr.alloc (.cells #[] (5 : TypeId)))) := (Below.refl _ _).alloc (Nat.le_refl _) _
      have HR0 : Hid ((wr.alloc (.cells #[] (5 : TypeId))).ownsRow wr.heap.size 5 1 (.slice (some ⟨wr.heap.size, 0, none⟩) 0 0) 0 []) := World.ownsRow_made wr #[] 0 (Nat.le_refl _) (by unfold maxLen; omega) rfl
      have hlqA : 0 + TQ.length ≤ 140737488355328 := by have := HTQL.out; omega
      have hlqB : TL + info.length ≤ 140737488355328 := by have := HIL.out; have := HN2.out; omega
      have hlqC : N2 + [X].length ≤ 140737488355328 := by simp; omega
      have HLA : Hid (0 + TQ.length = TL) := by show _ = _; rw [Nat.zero_add]; exact HTQL.out
      have HLB : Hid (TL + info.length = N2) := by show _ = _; rw [HIL.out]; exact HN2.out
      have HON : Hid (∀ w3 : World, ByAt (w3.alloc (.cells #[.int .u8 ((q : Int) + 1)] (5 : TypeId))) (.slice (some ⟨w3.heap.size, 0, none⟩) 1 1) [X]) := fun w3 => by
        have h := ByAt.one w3 X
        rw [HXE.out] at h; exact h
      generalize hRGQ : (stL SZ T Q).map encB = RGQ at *
      go_wp2_with (first
        | (at_builtin; refine wpList_append_by rfl (.tmp 49) (.tmp 50) rfl wr.heap.size (.slice (some ⟨wr.heap.size, 0, none⟩) 0 0) 0 [] rfl HR0.out (.slice at_ TL ct) TQ rfl (HBT.out.next HA0.out) hlqA HA0.out.size ?_; intro v1 w2 hown1 hg1; rw [List.nil_append, HLA.out] at hown1; have HB2 := hidD (row_grown HR0.out HA0.out hg1 HA0.out.size); obtain ⟨a1, c1, hv1⟩ := row_shape hown1; subst hv1; have HO1 := hidD hown1; have hwz2 := HB2.out.size; clear hown1 hg1 HR0 HA0)
        | (at_builtin; refine wpList_append_by rfl (.tmp 51) (.tmp 52) rfl wr.heap.size (.slice a1 TL c1) TL (TQ.map encB) rfl HO1.out (.slice aI IL cI) info rfl (HBI.out.next (Below.next HBW.out HB2.out)) hlqB hwz2 ?_; intro v2 w3 hown2 hg2; rw [← List.map_append, HLB.out] at hown2; have HB3 := hidD (row_grown HO1.out HB2.out hg2 hwz2); obtain ⟨a2, c2, hv2⟩ := row_shape hown2; subst hv2; have HO2 := hidD hown2; have hwz3 := HB3.out.size; have HO2a := hidD (row_below hown2 ((Below.refl _ _).alloc (Nat.le_refl _) (.cells #[.int .u8 ((q : Int) + 1)] (5 : TypeId)))); have HB3a := hidD (HB3.out.alloc hwz3 (.cells #[.int .u8 ((q : Int) + 1)] (5 : TypeId))); have hwz3a := HB3a.out.size; clear hown2 hg2 HO1 HB2)
        | (at_builtin; refine wpList_append_by rfl (.tmp 53) (.tmp 56) rfl wr.heap.size (.slice a2 N2 c2) N2 ((TQ ++ info).map encB) rfl HO2a.out (.slice (some ⟨w3.heap.size, 0, none⟩) 1 1) [X] rfl (HON.out w3) hlqC hwz3a ?_; intro v3 w4 hown3 hg3; rw [← List.map_append] at hown3; have HB4 := hidD (row_grown HO2a.out HB3a.out hg3 hwz3a); have hbb3 := row_by (bs := (TQ ++ info) ++ [X]) (by rw [HL3.out]; exact hown3); obtain ⟨a3, c3, hv3⟩ := row_shape hown3; subst hv3; have HX4 := hidD (HMC.out g _ (N2 + 1) a3 c3 w4 HL3.out (by omega) (HHG.out.next (HBL.out.trans (HB4.out.mono hwz))) (Below.next HBW.out HB4.out) hbb3); clear hown3 hg3 hbb3 HO2a HB3a)
        | (go_at_call 35; refine HX4.out.mono ?_; rintro e w5 ⟨g5, c5, rfl, hg5, hby5, hb5⟩; rw [← HTN.out] at hby5; have HD5 := hidD hby5; have HB5 := hidD (HB4.out.trans (hb5.mono HB4.out.size)); have HO5 := hidD (row_below HOW.out HB5.out); have hg5r : wr.heap.size ≤ g5 := Nat.le_trans HB4.out.size hg5; have HB5l := hidD (HBL.out.trans (HB5.out.mono hwz)); have hwz5 := HB5l.out.size; clear hby5 hb5 HX4)
        | (at_builtin; refine wpList_append_by rfl (.tmp 59) (.tmp 60) rfl w1.heap.size (.slice ad Q cd) Q RGQ rfl HO5.out (.slice (some ⟨g5, 0, none⟩) SZ c5) (T (q + 1)) rfl HD5.out (by rw [HTL.out]; omega) hwz5 ?_; intro v6 w6 hown6 hg6; have HB6 := hidD (row_grown HO5.out HB5l.out hg6 hwz5); have HD6 := hidD (HD5.out.grown hg6 (fun gg oo nn cc he => by cases he; intro hc; have := (HOW.out.lt _ hc.symm).2; omega)); rw [HTL.out] at hown6; obtain ⟨a6, c6, hv6⟩ := row_shape hown6; subst hv6; clear hg6))
      have HF6 : Hid (w6.ownsRow w1.heap.size 5 1 (.slice a6 (Q + SZ) c6) ((q + 1) * SZ) ((stL SZ T ((q + 1) * SZ)).map encB)) := by
        show World.ownsRow _ _ _ _ _ _ _
        rw [← HSTQ.out, List.map_append, hRGQ, HQ1.out]; exact hown6
      go_roundw
      case rel =>
        first
        | exact ⟨q + 1, by rw [HQ1.out]; omega, by go_num, HF6.out, HD6.out, HB6.out⟩
        | ((repeat apply Exists.intro); refine And.intro ?_ rfl; exact ⟨q + 1, by rw [HQ1.out]; omega, by go_num, HF6.out, HD6.out, HB6.out⟩)
      case measure => simp [lenV]; omega
    · have hlti : ¬ (Q : Int) < (n : Int) := by omega
      have hlen : (stL SZ T Q).length = Q := HSL.out Q
      have hbyo : ByAt wr (.slice ad (stL SZ T Q).length cd) (stL SZ T Q) := by rw [hlen]; exact row_by (bs := stL SZ T Q) (by rw [hlen]; exact hown)
      have hcap : (stL SZ T Q).length ≤ cd := by
        rw [hlen]
        rcases Nat.eq_zero_or_pos Q with h0 | h0
        · omega
        · obtain ⟨g', c', he, _, _, h4⟩ := row_shapeC hown h0
          cases he; exact h4
      obtain ⟨a1, hs1, hby1⟩ := slice_take hbyo hcap n (by rw [hlen]; omega)
      rw [HTK.out Q (by omega)] at hby1 hs1
      rw [hlen] at hs1
      have HBY1 := hidD hby1
      clear hown hbt hbel hbyo hby1 hcap hlen
      generalize (stL SZ T n).length = LN at *
      go_wp2_with fail
      refine bodyPost_ret (v := .tuple #[.slice a1 LN cd, .int .i64 0]) (by simp [results, Try.results19, go_sem]) rfl ?_
      exact ⟨_, rfl, HBY1.out, HBW.out⟩
end Go.Proofs.Ytnldpofljeodiaa
/- What Stretch of the document's answer for layer 8 answers. -/
namespace Go.Proofs.Ytnldpofljeodiaa
open Go.RowKit
set_option linter.unusedVariables false

def byR (f : Nat → UInt8) (n : Nat) : List Value := (List.range n).map fun i => encB (f i)
theorem byR_at (f : Nat → UInt8) (n j : Nat) (h : j < n) : (byR f n)[j]? = some (.int .u8 ((f j).toNat : Int)) := by simp [byR, h, encB]
theorem byR_congr (f h : Nat → UInt8) (n : Nat) (e : ∀ j, j < n → f j = h j) : byR f n = byR h n := by
  unfold byR
  exact List.map_congr_left fun i hi => by rw [e i (List.mem_range.1 hi)]
theorem byR_set (f h : Nat → UInt8) (n q : Nat) (v : UInt8) (hq : q < n) (e : ∀ j, j < n → h j = if j = q then v else f j) : (byR f n).set q (.int .u8 (v.toNat : Int)) = byR h n := by
  apply List.ext_getElem?
  intro j
  rw [List.getElem?_set]
  by_cases hj : j < n
  · rw [byR_at h n j hj, e j hj]
    by_cases hjq : q = j
    · subst hjq; rw [if_pos rfl, if_pos rfl, if_pos (by simp [byR, hq])]
    · rw [if_neg hjq, if_neg (Ne.symm hjq), byR_at f n j hj]
  · have hn : ∀ f, (byR f n)[j]? = none := fun f => List.getElem?_eq_none (by simp [byR]; omega)
    rw [hn, hn, if_neg (by omega)]
theorem byR_list (L : List UInt8) (n : Nat) (h : L.length = n) : L.map encB = byR (fun i => L.getD i 0) n := by
  apply List.ext_getElem?
  intro j
  by_cases hj : j < n
  · rw [byR_at _ n j hj, List.getElem?_map, List.getElem?_eq_getElem (by omega)]
    simp [encB, List.getD_eq_getElem?_getD, List.getElem?_eq_getElem (show j < L.length by omega)]
  · rw [List.getElem?_eq_none (by simp; omega), List.getElem?_eq_none (by simp [byR]; omega)]
set_option maxRecDepth 100000 in
set_option maxHeartbeats 1600000 in
theorem rStr_bad (x : Int) (u v : Value) (rd z e1 : Int) (w : World)
    (h : (e1 = 1 ∧ x ≠ 224 ∧ x ≠ 256 ∧ x ≠ 384 ∧ x ≠ 512) ∨ (∃ k : Nat, Kind k ∧ x = (k : Int) ∧ ((e1 = 1 ∧ rd < 1) ∨ (e1 = 1 ∧ ¬ rd < 1 ∧ z < 0) ∨ (e1 = 3 ∧ ¬ rd < 1 ∧ ¬ z < 0 ∧ 1024 < rd) ∨ (e1 = 3 ∧ ¬ rd < 1 ∧ ¬ z < 0 ∧ ¬ 1024 < rd ∧ 1024 < z)))) : Calls Try.prog 21 #[.int .i64 x, u, v, .int .i64 rd, .int .i64 z] w fun e w' => e = .returned (.tuple #[.slice none 0 0, .int .i64 e1]) ∧ Below w.heap.size w w' := by
  rcases h with ⟨rfl, hx⟩ | ⟨k, hk, rfl, h⟩
  · have HSZ := hidD (rSize_no x hx)
    clear hx
    go_enter Try.func21, Try.ntmps21
    go_wp2_with (go_at_call 39; refine (HSZ.out _).mono ?_; rintro e wz ⟨rfl, hwz⟩; subst wz; clear HSZ)
    refine bodyPost_ret (v := .tuple #[.slice none 0 0, .int .i64 1]) (by simp [results, Try.results21, go_sem]) rfl ⟨rfl, Below.refl _ _⟩
  · have HSZ := hidD (rSize_any k hk)
    clear hk
    generalize k / 8 = k8 at *
    generalize blkN k = bk at *
    rcases h with ⟨rfl, h1⟩ | ⟨rfl, h1, h2⟩ | ⟨rfl, h1, h2, h3⟩ | ⟨rfl, h1, h2, h3, h4⟩
    · go_enter Try.func21, Try.ntmps21
      go_wp2_with (go_at_call 39; refine (HSZ.out _).mono ?_; rintro e wz ⟨rfl, hwz⟩; subst wz; clear HSZ)
      all_goals try (apply False.elim; apply undef_boolS; assumption)
      refine bodyPost_ret (v := .tuple #[.slice none 0 0, .int .i64 1]) (by simp [results, Try.results21, go_sem]) rfl ⟨rfl, Below.refl _ _⟩
    · go_enter Try.func21, Try.ntmps21
      go_wp2_with (go_at_call 39; refine (HSZ.out _).mono ?_; rintro e wz ⟨rfl, hwz⟩; subst wz; clear HSZ)
      all_goals try (apply False.elim; apply undef_boolS; assumption)
      refine bodyPost_ret (v := .tuple #[.slice none 0 0, .int .i64 1]) (by simp [results, Try.results21, go_sem]) rfl ⟨rfl, Below.refl _ _⟩
    · go_enter Try.func21, Try.ntmps21
      go_wp2_with (go_at_call 39; refine (HSZ.out _).mono ?_; rintro e wz ⟨rfl, hwz⟩; subst wz; clear HSZ)
      all_goals try (apply False.elim; apply undef_boolS; assumption)
      refine bodyPost_ret (v := .tuple #[.slice none 0 0, .int .i64 3]) (by simp [results, Try.results21, go_sem]) rfl ⟨rfl, Below.refl _ _⟩
    · go_enter Try.func21, Try.ntmps21
      go_wp2_with (go_at_call 39; refine (HSZ.out _).mono ?_; rintro e wz ⟨rfl, hwz⟩; subst wz; clear HSZ)
      all_goals try (apply False.elim; apply undef_boolS; assumption)
      refine bodyPost_ret (v := .tuple #[.slice none 0 0, .int .i64 3]) (by simp [results, Try.results21, go_sem]) rfl ⟨rfl, Below.refl _ _⟩
set_option maxRecDepth 100000 in
set_option maxHeartbeats 4000000 in
theorem rStr_ok (k : Nat) (hk : Kind k) (key salt : List UInt8) (hkl : key.length ≤ 140737488354816) (hIl : salt.length ≤ 140737488354400) (R : Nat) (hR : R ≤ 1023) (n : Nat) (hn : n ≤ 1024) (aK aI : Option Addr) (cK cI : Nat) (w : World) (hbK : ByAt w (.slice aK key.length cK) key) (hbI : ByAt w (.slice aI salt.length cI) salt) : Calls Try.prog 21 #[.int .i64 (k : Int), .slice aK key.length cK, .slice aI salt.length cI, .int .i64 ((R : Int) + 1), .int .i64 (n : Int)] w (ByIs w (stL (k / 8) (stT k key salt R) n)) := by
  obtain ⟨hbn, hnb, hsz0, hsz1⟩ := kd_nb k hk
  have hsz : 28 ≤ k / 8 ∧ k / 8 ≤ 64 := by omega
  have HSZ := hidD (rSize_any k hk)
  have HBG := hidD (rBegin2_any k hk)
  have HEL : Hid (∀ i, (stT k key salt R (i + 1)).length = k / 8) := fun i => stT_len k key salt R (i + 1)
  have HTR : Hid (∀ q, (stT k key salt R q).map encB = byR (fdS k key (stF k key salt q) R) (k / 8)) := fun q => by show _ = _; unfold stT byR; rw [List.map_map]; rfl
  have HST := hidD (fun i hl => stL_more (k / 8) (by omega) (stT k key salt R) i hl)
  have HSL := hidD (stL_len (k / 8) (stT k key salt R))
  have HTK := hidD (stL_take (k / 8) (stT k key salt R) n)
  have HF0 : Hid (∀ q, stF k key salt q = mkL k key (salt ++ [0, 0, 0, UInt8.ofNat q])) := fun q => rfl
  have HFL : Hid (∀ q, (stF k key salt q).length = k / 8) := fun q => mkL_len _ _ _
  have HFU : Hid (∀ q j, fdU k key (stF k key salt q) (j + 1) = mkL k key (fdU k key (stF k key salt q) j)) := fun q j => rfl
  have HFU0 : Hid (∀ q, fdU k key (stF k key salt q) 0 = stF k key salt q) := fun q => rfl
  have HUL : Hid (∀ q j, (fdU k key (stF k key salt q) j).length = k / 8) := fun q j => fdU_len k key _ (HFL.out q) j
  have HS0 : Hid (∀ q i, fdS k key (stF k key salt q) 0 i = (stF k key salt q).getD i 0) := fun q i => rfl
  have HSN : Hid (∀ q j i, fdS k key (stF k key salt q) (j + 1) i = fdS k key (stF k key salt q) j i ^^^ (fdU k key (stF k key salt q) (j + 1)).getD i 0) := fun q j i => rfl
  have HMC : Hid (∀ (g : Nat) (M : List UInt8) (N : Nat) (a : Option Addr) (c : Nat) (wA : World), M.length = N → N ≤ 140737488354560 → HkAt wA g k → Below w.heap.size w wA → ByAt wA (.slice a N c) M → Calls Try.prog 35 #[.pointer (some ⟨g, 0, none⟩), .slice aK key.length cK, .slice a N c] wA fun e w' => ∃ g' cap, e = .returned (.slice (some ⟨g', 0, none⟩) (k / 8) cap) ∧ wA.heap.size ≤ g' ∧ g' < w'.heap.size ∧ k / 8 ≤ cap ∧ ByAt w' (.slice (some ⟨g', 0, none⟩) (k / 8) cap) (mkL k key M) ∧ Below wA.heap.size wA w') := fun g M N a c wA hN hl h1 h2 h3 => by
    subst hN
    exact rMac_any k hk key M hkl hl aK a cK c g wA h1 (hbK.next h2) h3
  have HBI := hidD hbI
  have hni0 : ¬ (n : Int) < 0 := by omega
  have hr1 : ¬ ((R : Int) + 1) < 1 := by omega
  have hr2 : ¬ (1024 : Int) < (R : Int) + 1 := by omega
  have hn1 : ¬ (1024 : Int) < (n : Int) := by omega
  clear hbK hbI hk hbn hnb hsz0 hsz1
  generalize stT k key salt R = T at *
  obtain ⟨F, hF⟩ : ∃ F, F = fun q => stF k key salt q := ⟨_, rfl⟩
  obtain ⟨FU, hFU⟩ : ∃ FU, FU = fun q j => fdU k key (stF k key salt q) j := ⟨_, rfl⟩
  obtain ⟨FS, hFS⟩ : ∃ FS, FS = fun q j i => fdS k key (stF k key salt q) j i := ⟨_, rfl⟩
  have eF : ∀ q, stF k key salt q = F q := fun q => by rw [hF]
  have eU : ∀ q j, fdU k key (F q) j = FU q j := fun q j => by rw [hFU, hF]
  have eS : ∀ q j, fdS k key (F q) j = FS q j := fun q j => by rw [hFS, hF]
  simp only [eF, eU, eS] at HTR HF0 HFL HFU HFU0 HUL HS0 HSN
  clear hF hFU hFS eF eU eS
  generalize key.length = KL at *
  obtain ⟨IL, hIL⟩ : ∃ IL : Nat, salt.length = IL := ⟨_, rfl⟩
  rw [hIL] at hIl HBI ⊢
  have HIL := hidD hIL
  clear hIL
  generalize k / 8 = SZ at *
  generalize blkN k = bk at *
  go_enter Try.func21, Try.ntmps21
  go_wp2_with (first
    | (go_at_call 39; refine (HSZ.out _).mono ?_; rintro e wz ⟨rfl, hwz⟩; subst wz; clear HSZ)
    | (go_at_call 31; refine (HBG.out _).mono ?_; rintro e w1 ⟨g, rfl, hg, hh, hb1⟩; have HHG := hidD hh.hk; have HB1 := hidD hb1; clear hh hb1 hg HBG))
  all_goals try (apply False.elim; apply undef_boolS; assumption)
  try clear hni0 hr1 hr2 hn1
  go_loopw [17, 18] (fun o iv wr => ∃ q : Nat, q * SZ < n + SZ ∧ iv = .int .i64 ((q : Int) + 1) ∧ wr.ownsRow w1.heap.size 5 1 o (q * SZ) ((stL SZ T (q * SZ)).map encB) ∧ Below w1.heap.size w1 wr) (fun o _ _ => n + SZ - lenV o)
  case atStart => exact ⟨0, by omega, rfl, by rw [Nat.zero_mul]; exact World.ownsRow_nil _ _ _ _, Below.refl _ _⟩
  case round =>
    obtain ⟨q, hq, rfl, hown, hbel⟩ := hrel
    obtain ⟨ad, cd, hde⟩ := row_shape hown
    subst hde
    have hq40 : q ≤ 40 := by
      rcases Nat.lt_or_ge 40 q with h | h
      · have h1 : 41 * SZ ≤ q * SZ := Nat.mul_le_mul_right _ h
        omega
      · exact h
    obtain ⟨Q, hQ⟩ : ∃ Q : Nat, q * SZ = Q := ⟨_, rfl⟩
    have HQ1 : Hid ((q + 1) * SZ = Q + SZ) := by show _ = _; rw [Nat.add_mul, Nat.one_mul, hQ]
    have HSTQ := hidD (HST.out q (HEL.out q))
    rw [hQ] at hown hq HSTQ ⊢
    clear hQ
    have HOW := hidD hown
    have HBL := hidD hbel
    have HBW := hidD (Below.next HB1.out hbel)
    have hwz := hbel.size
    by_cases hlt : Q < n
    · have hlti : (Q : Int) < (n : Int) := by omega
      have s24 : ((q : Int) + 1) / 16777216 = 0 := by omega
      have s16 : ((q : Int) + 1) / 65536 = 0 := by omega
      have s8 : ((q : Int) + 1) / 256 = 0 := by omega
      have HXE : Hid ((((UInt8.ofNat (q + 1)).toNat : Nat) : Int) = (q : Int) + 1) := by
        show _ = _
        rw [UInt8.toNat_ofNat']; omega
      have HFQ := hidD (HF0.out (q + 1))
      clear hown hbel
      generalize UInt8.ofNat (q + 1) = X at *
      obtain ⟨N2, hN2⟩ : ∃ N2 : Nat, IL + 4 = N2 := ⟨_, rfl⟩
      have hN2b : N2 ≤ 140737488354464 := by omega
      have HN2 := hidD hN2
      clear hN2
      have HL2 : Hid ((salt ++ [0, 0, 0, X]).length = N2) := by show _ = _; rw [List.length_append, HIL.out]; exact HN2.out
      have HA0 : Hid (Below wr.heap.size wr (wr.alloc (.cells #[] (5 : TypeId)))) := (Below.refl _ _).alloc (Nat.le_refl _) _
      have HR0 : Hid ((wr.alloc (.cells #[] (5 : TypeId))).ownsRow wr.heap.size 5 1 (.slice (some ⟨wr.heap.size, 0, none⟩) 0 0) 0 []) := World.ownsRow_made wr #[] 0 (Nat.le_refl _) (by unfold maxLen; omega) rfl
      have hlqA : 0 + salt.length ≤ 140737488355328 := by have := HIL.out; omega
      have hlqB : IL + [0, 0, 0, X].length ≤ 140737488355328 := by simp; omega
      have HLA : Hid (0 + salt.length = IL) := by show _ = _; rw [Nat.zero_add]; exact HIL.out
      have HLB : Hid (IL + [0, 0, 0, X].length = N2) := HN2.out
      have HON : Hid (∀ w3 : World, ByAt (w3.alloc (.cells #[.int .u8 0, .int .u8 0, .int .u8 0, .int .u8 ((q : Int) + 1)] (5 : TypeId))) (.slice (some ⟨w3.heap.size, 0, none⟩) 4 4) [0, 0, 0, X]) := fun w3 => by
        refine .inr ⟨w3.heap.size, 0, 4, rfl, by simp, fun j hj => ?_⟩
        rw [cell_of_row _ _ _ _ _ _ (heap_alloc_last w3 _)]
        rcases (show j = 0 ∨ j = 1 ∨ j = 2 ∨ j = 3 by simp at hj; omega) with rfl | rfl | rfl | rfl
        · rfl
        · rfl
        · rfl
        · show some (Value.int .u8 ((q : Int) + 1)) = some (Value.int .u8 (X.toNat : Int)); rw [HXE.out]
      go_wp2_with (first
        | (at_builtin; refine wpList_append_by rfl (.tmp 60) (.tmp 61) rfl wr.heap.size (.slice (some ⟨wr.heap.size, 0, none⟩) 0 0) 0 [] rfl HR0.out (.slice aI IL cI) salt rfl (HBI.out.next (Below.next HBW.out HA0.out)) hlqA HA0.out.size ?_; intro v1 w2 hown1 hg1; rw [List.nil_append, HLA.out] at hown1; have HB2 := hidD (row_grown HR0.out HA0.out hg1 HA0.out.size); obtain ⟨a1, c1, hv1⟩ := row_shape hown1; subst hv1; have hwz2 := HB2.out.size; have HO2a := hidD (row_below hown1 ((Below.refl _ _).alloc (Nat.le_refl _) (.cells #[.int .u8 0, .int .u8 0, .int .u8 0, .int .u8 ((q : Int) + 1)] (5 : TypeId)))); have HB3a := hidD (HB2.out.alloc hwz2 (.cells #[.int .u8 0, .int .u8 0, .int .u8 0, .int .u8 ((q : Int) + 1)] (5 : TypeId))); have hwz3a := HB3a.out.size; clear hown1 hg1 HR0 HA0)
        | (at_builtin; refine wpList_append_by rfl (.tmp 62) (.tmp 74) rfl wr.heap.size (.slice a1 IL c1) IL (salt.map encB) rfl HO2a.out (.slice (some ⟨w2.heap.size, 0, none⟩) 4 4) [0, 0, 0, X] rfl (HON.out w2) hlqB hwz3a ?_; intro v3 w4 hown3 hg3; rw [← List.map_append, HLB.out] at hown3; have HB4 := hidD (row_grown HO2a.out HB3a.out hg3 hwz3a); have hbb3 := row_by (bs := salt ++ [0, 0, 0, X]) (by rw [HL2.out]; exact hown3); obtain ⟨a3, c3, hv3⟩ := row_shape hown3; subst hv3; have HX4 := hidD (HMC.out g _ N2 a3 c3 w4 HL2.out (by omega) (HHG.out.next (HBL.out.trans (HB4.out.mono hwz))) (Below.next HBW.out HB4.out) hbb3); clear hown3 hg3 hbb3 HO2a HB3a)
        | (go_at_call 35; refine HX4.out.mono ?_; rintro e w5 ⟨g5, c5, rfl, hg5, hgl5, hc5, hby5, hb5⟩; rw [← HFQ.out] at hby5; have HD5 := hidD hby5; have HB5 := hidD (HB4.out.trans (hb5.mono HB4.out.size)); have hwz5 := HB5.out.size; have HR5 : Hid ((w5.alloc (.cells #[] (5 : TypeId))).ownsRow w5.heap.size 5 1 (.slice (some ⟨w5.heap.size, 0, none⟩) 0 0) 0 []) := World.ownsRow_made w5 #[] 0 (Nat.le_refl _) (by unfold maxLen; omega) rfl; have HA5 : Hid (Below w5.heap.size w5 (w5.alloc (.cells #[] (5 : TypeId)))) := (Below.refl _ _).alloc (Nat.le_refl _) _; clear hby5 hb5 HX4)
        | (at_builtin; refine wpList_append_by rfl (.tmp 77) (.tmp 78) rfl w5.heap.size (.slice (some ⟨w5.heap.size, 0, none⟩) 0 0) 0 [] rfl HR5.out (.slice (some ⟨g5, 0, none⟩) SZ c5) (F (q + 1)) rfl (HD5.out.next HA5.out) (by rw [HFL.out]; omega) HA5.out.size ?_; intro v6 w6 hown6 hg6; rw [List.nil_append, Nat.zero_add, HFL.out] at hown6; have HB6 := hidD (row_grown HR5.out HA5.out hg6 HA5.out.size); obtain ⟨gt, ct, hv6, hgt, hgtl, hct⟩ := row_shapeC hown6 (by omega); subst hv6; have HO6 := hidD hown6; clear hown6 hg6 HR5 HA5))
      have HT0 : Hid (w6.ownsRow w5.heap.size 5 1 (.slice (some ⟨gt, 0, none⟩) SZ ct) SZ (byR (FS (q + 1) 0) SZ)) := by
        show World.ownsRow _ _ _ _ _ _ _
        have h := HO6.out
        rw [byR_list (F (q + 1)) SZ (HFL.out _), byR_congr _ (FS (q + 1) 0) SZ (fun j _ => (HS0.out _ _).symm)] at h
        exact h
      have HU0 : Hid (ByAt w6 (.slice (some ⟨g5, 0, none⟩) SZ c5) (FU (q + 1) 0)) := by
        show ByAt _ _ _
        rw [HFU0.out]; exact HD5.out.next HB6.out
      have hg5t : g5 ≠ gt := by omega
      clear HO6 HON
      try clear s24 s16 s8
      go_loopw [19, 21] (fun uv rv wr => ∃ j : Nat, j ≤ R ∧ rv = .int .i64 ((j : Int) + 1) ∧ (∃ gu cu, uv = .slice (some ⟨gu, 0, none⟩) SZ cu ∧ gu ≠ gt ∧ gu < wr.heap.size ∧ SZ ≤ cu ∧ ByAt wr (.slice (some ⟨gu, 0, none⟩) SZ cu) (FU (q + 1) j)) ∧ wr.ownsRow w5.heap.size 5 1 (.slice (some ⟨gt, 0, none⟩) SZ ct) SZ (byR (FS (q + 1) j) SZ) ∧ Below w5.heap.size w5 wr) (fun _ rv _ => R + 2 - (intOf rv).toNat)
      case atStart => exact ⟨0, by omega, rfl, ⟨g5, c5, rfl, hg5t, Nat.lt_of_lt_of_le hgl5 HB6.out.size, hc5, HU0.out⟩, HT0.out, HB6.out⟩
      case round =>
        clear HT0 HU0
        obtain ⟨j, hj, rfl, ⟨gu, cu, rfl, hgu, hgul, hcu, hbu⟩, hot, hbel⟩ := hrel
        have HBU := hidD hbu
        have HOT := hidD hot
        have HBL2 := hidD hbel
        have HB5w : Hid (Below wr.heap.size wr wr) := Below.refl _ _
        obtain ⟨wm, hwm⟩ : ∃ wm : World, wm = wr := ⟨_, rfl⟩
        subst hwm
        by_cases hlj : j < R
        · have hlji : (j : Int) + 1 < (R : Int) + 1 := by omega
          have HUN := hidD (HFU.out (q + 1) j)
          have HSNJ := hidD (HSN.out (q + 1) j)
          have HX7 := hidD (HMC.out g (FU (q + 1) j) SZ (some ⟨gu, 0, none⟩) cu wm (HUL.out _ _) (by omega) (HHG.out.next (HBL.out.trans ((HB5.out.trans (hbel.mono HB5.out.size)).mono hwz))) (Below.next HBW.out (HB5.out.trans (hbel.mono HB5.out.size))) hbu)
          rw [← HUN.out] at HX7
          have hULn := HUL.out (q + 1) (j + 1)
          clear hbu hot hbel HUN
          generalize hFSJ : FS (q + 1) j = FSJ at *
          generalize hFSN : FS (q + 1) (j + 1) = FSN at *
          generalize hFUN : FU (q + 1) (j + 1) = FUN at *
          go_wp2_with (go_at_call 35; refine HX7.out.mono ?_; rintro e w7 ⟨g7, c7, rfl, hg7, hgl7, hc7, hby7, hb7⟩; have HD7 := hidD hby7; have HO7 := hidD (row_below HOT.out hb7); have HB7 := hidD (HBL2.out.trans (hb7.mono HBL2.out.size)); clear hby7 hb7 HX7)
          have hgtm : gt < wm.heap.size := by
            obtain ⟨g', c', he, _, h2, _⟩ := row_shapeC HOT.out (by omega)
            cases he; exact h2
          have hg7t : g7 ≠ gt := by omega
          have HUC : Hid (∀ i, i < SZ → w7.cell? ⟨g7, i, none⟩ = some (.int .u8 ((FUN.getD i 0).toNat : Int))) := fun i hi => by
            obtain ⟨a0, c0, he, hh⟩ := HD7.out.shape
            cases he
            obtain ⟨g', o', he', _, h2⟩ := hh i (by omega)
            cases he'
            rw [Nat.zero_add] at h2; exact h2
          have HT7 : Hid (w7.ownsRow w5.heap.size 5 1 (.slice (some ⟨gt, 0, none⟩) SZ ct) SZ (byR (fun i => if i < 0 then FSN i else FSJ i) SZ)) := by
            show World.ownsRow _ _ _ _ _ _ _
            rw [byR_congr _ FSJ SZ (fun i _ => if_neg (by omega))]; exact HO7.out
          clear HO7
          go_loopw [22] (fun mv wr => ∃ m : Nat, m ≤ SZ ∧ mv = .int .i64 (m : Int) ∧ wr.ownsRow w5.heap.size 5 1 (.slice (some ⟨gt, 0, none⟩) SZ ct) SZ (byR (fun i => if i < m then FSN i else FSJ i) SZ) ∧ But gt w7 wr) (fun mv _ => SZ - (intOf mv).toNat)
          case atStart => exact ⟨0, by omega, rfl, HT7.out, But.refl _ _⟩
          case round =>
            clear HT7
            obtain ⟨m, hm, rfl, hot, hbut⟩ := hrel
            by_cases hlm : m < SZ
            · have hlmi : (m : Int) < (SZ : Int) := by omega
              have hgtl' : gt < wr.heap.size := by
                obtain ⟨g', c', he, _, h2, _⟩ := row_shapeC hot (by omega)
                cases he; exact h2
              have f1 : ∀ i : KB wr [gt, g7], i.v.cell? ⟨gt, m, none⟩ = some (.int .u8 ((FSJ m).toNat : Int)) := fun i => (i.cell (b := gt) (by simp) _).trans ((hot.cellAt m (by omega)).trans (by rw [byR_at _ SZ m hlm, if_neg (by omega)]))
              have f2 : ∀ i : KB wr [gt, g7], i.v.cell? ⟨g7, m, none⟩ = some (.int .u8 ((FUN.getD m 0).toNat : Int)) := fun i => (i.cell (b := g7) (by simp) _).trans ((hbut.cell hgl7 hg7t).trans (HUC.out m hlm))
              have hx : bits .xor .u8 ((FSJ m).toNat : Int) ((FUN.getD m 0).toNat : Int) = ((FSN m).toNat : Int) := by rw [u8_xor_b, HSNJ.out]
              have h1 := (hot.cellAt m (by omega)).trans (byR_at _ SZ m hlm)
              rw [if_neg (by omega)] at h1
              have h2 := hot.frozenAt m
              have HST2 : Hid ((wr.drew.setCell ⟨gt, m, none⟩ (.int .u8 ((FSN m).toNat : Int))).ownsRow w5.heap.size 5 1 (.slice (some ⟨gt, 0, none⟩) SZ ct) SZ (byR (fun i => if i < m + 1 then FSN i else FSJ i) SZ)) := by
                show World.ownsRow _ _ _ _ _ _ _
                have h := (hot.drew.stored m (.int .u8 ((FSN m).toNat : Int))).1
                rw [byR_set _ (fun i => if i < m + 1 then FSN i else FSJ i) SZ m (FSN m) hlm (fun i hi => by
                  by_cases e1 : i = m
                  · subst e1; rw [if_pos rfl, if_pos (by omega)]
                  · rw [if_neg e1]
                    by_cases e2 : i < m
                    · rw [if_pos (by omega), if_pos e2]
                    · rw [if_neg (by omega), if_neg e2])] at h
                exact h
              have HSB2 : Hid (But gt w7 (wr.drew.setCell ⟨gt, m, none⟩ (.int .u8 ((FSN m).toNat : Int)))) := (hbut.trans (But.of (Below.refl _ _).drew (Nat.le_of_lt hgtl'))).put m _
              clear hot hbut
              generalize ((FSN m).toNat : Int) = XN at *
              generalize ((FSJ m).toNat : Int) = XJ at *
              generalize ((FUN.getD m 0).toNat : Int) = XU at *
              go_wp2_with fail
              refine wp_region_seg [0, 0, 0, 0, 0, 0, 0, 0, 0, 0, 0, 0, 99] 0 12 [gt, g7] (by kernel_rfl) (by kernel_rfl) (by kernel_rfl) (by kernel_rfl) (by kernel_rfl) (by kernel_rfl) (by kernel_rfl) (by kernel_rfl) (fun _ _ _ _ _ h => h) ?_
              simp only [SegW, pk, Nat.reduceMul, Nat.reduceBEq, cond_true, cond_false]
              repeat (go_big_quiet_step (fail))
              refine wpQuiet_nil ?_
              clear f1 f2
              have h1d : wr.drew.cell? ⟨gt, m, none⟩ = some (.int .u8 XJ) := h1
              have h2d : wr.drew.frozen? ⟨gt, m, none⟩ = false := h2
              clear h1 h2
              go_wp2_with fail
              go_roundw
              case rel =>
                first
                | exact ⟨m + 1, by omega, by go_num, HST2.out, HSB2.out⟩
                | ((repeat apply Exists.intro); refine And.intro ?_ rfl; exact ⟨m + 1, by omega, by go_num, HST2.out, HSB2.out⟩)
              case measure => simp [intOf]; omega
            · obtain rfl : SZ = m := by omega
              have HTE : Hid (wr.ownsRow w5.heap.size 5 1 (.slice (some ⟨gt, 0, none⟩) SZ ct) SZ (byR FSN SZ)) := by
                show World.ownsRow _ _ _ _ _ _ _
                rw [byR_congr FSN (fun i => if i < SZ then FSN i else FSJ i) SZ (fun i hi => (if_pos hi).symm)]; exact hot
              have HUE : Hid (ByAt wr (.slice (some ⟨g7, 0, none⟩) SZ c7) FUN) := HD7.out.but hbut (fun h o n c he => by cases he; exact hg7t)
              have HBE : Hid (Below w5.heap.size w5 wr) := HB7.out.trans (hbut.bel.mono hgt)
              have hgl7' : g7 < wr.heap.size := Nat.lt_of_lt_of_le hgl7 hbut.bel.size
              clear hot hbut
              go_wp2_with fail
              go_roundw
              case rel =>
                first
                | exact ⟨j + 1, by omega, by go_num, ⟨g7, c7, rfl, hg7t, hgl7', hc7, by rw [hFUN]; exact HUE.out⟩, by rw [hFSN]; exact HTE.out, HBE.out⟩
                | ((repeat apply Exists.intro); refine And.intro ?_ rfl; exact ⟨j + 1, by omega, by go_num, ⟨g7, c7, rfl, hg7t, hgl7', hc7, by rw [hFUN]; exact HUE.out⟩, by rw [hFSN]; exact HTE.out, HBE.out⟩)
              case measure => simp [intOf]; omega
        · obtain rfl : R = j := by omega
          have hlji : ¬ (R : Int) + 1 < (R : Int) + 1 := by omega
          have HTQ : Hid (ByAt wm (.slice (some ⟨gt, 0, none⟩) SZ ct) (T (q + 1))) := by
            show ByAt _ _ _
            have h := HOT.out
            rw [← HTR.out (q + 1)] at h
            have h2 := row_by (bs := T (q + 1)) (by rw [HEL.out]; exact h)
            exact h2
          have HOO := hidD (row_below HOW.out (HB5.out.trans (hbel.mono HB5.out.size)))
          have HBO := hidD (HBL.out.trans ((HB5.out.trans (hbel.mono HB5.out.size)).mono hwz))
          have hwzo := HBO.out.size
          have hTE := HEL.out q
          clear hbu hot hbel
          generalize hRGQ : (stL SZ T Q).map encB = RGQ at *
          go_wp2_with (at_builtin; refine wpList_append_by rfl (.tmp 107) (.tmp 108) rfl w1.heap.size (.slice ad Q cd) Q RGQ rfl HOO.out (.slice (some ⟨gt, 0, none⟩) SZ ct) (T (q + 1)) rfl HTQ.out (by rw [HEL.out]; omega) hwzo ?_; intro v8 w8 hown8 hg8; rw [HEL.out] at hown8; have HB8 := hidD (row_grown HOO.out HBO.out hg8 hwzo); obtain ⟨a8, c8, hv8⟩ := row_shape hown8; subst hv8; have HF8 : Hid (w8.ownsRow w1.heap.size 5 1 (.slice a8 (Q + SZ) c8) ((q + 1) * SZ) ((stL SZ T ((q + 1) * SZ)).map encB)) := (by show World.ownsRow _ _ _ _ _ _ _; rw [← HSTQ.out, List.map_append, hRGQ, HQ1.out]; exact hown8); clear hown8 hg8)
          go_roundw
          case rel =>
            first
            | exact ⟨q + 1, by rw [HQ1.out]; omega, by go_num, HF8.out, HB8.out⟩
            | ((repeat apply Exists.intro); refine And.intro ?_ rfl; exact ⟨q + 1, by rw [HQ1.out]; omega, by go_num, HF8.out, HB8.out⟩)
          case measure => simp [lenV]; omega
    · have hlti : ¬ (Q : Int) < (n : Int) := by omega
      have hlen : (stL SZ T Q).length = Q := HSL.out Q
      have hbyo : ByAt wr (.slice ad (stL SZ T Q).length cd) (stL SZ T Q) := by rw [hlen]; exact row_by (bs := stL SZ T Q) (by rw [hlen]; exact hown)
      have hcap : (stL SZ T Q).length ≤ cd := by
        rw [hlen]
        rcases Nat.eq_zero_or_pos Q with h0 | h0
        · omega
        · obtain ⟨g', c', he, _, _, h4⟩ := row_shapeC hown h0
          cases he; exact h4
      obtain ⟨a1, hs1, hby1⟩ := slice_take hbyo hcap n (by rw [hlen]; omega)
      rw [HTK.out Q (by omega)] at hby1 hs1
      rw [hlen] at hs1
      have HBY1 := hidD hby1
      clear hown hbel hbyo hby1 hcap hlen
      generalize (stL SZ T n).length = LN at *
      go_wp2_with fail
      refine bodyPost_ret (v := .tuple #[.slice a1 LN cd, .int .i64 0]) (by simp [results, Try.results21, go_sem]) rfl ?_
      exact ⟨_, rfl, HBY1.out, HBW.out⟩
end Go.Proofs.Ytnldpofljeodiaa
