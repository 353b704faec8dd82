/- What the document's Mac answers. -/
import Derived.Test.YtgefampdfhbmbaaMi
import Derived.Test.YtgefampdfhbmbaaMf
import Derived.Deep.OwnRows
namespace Go.Proofs.Ytgefampdfhbmbaa
open Go.RowKit
set_option linter.unusedVariables false

def z0 (i : Nat) : UInt8 := 0
theorem blk_z0 : blk (toL z0) = z0 := by
  funext i
  by_cases hi : i < 16
  · exact blk_toL hi
  · unfold blk
    rw [List.getD_eq_getElem?_getD, List.getElem?_eq_none (by rw [toL_len]; omega)]; rfl
def mPad (d : List UInt8) : List UInt8 := if d.length = 0 ∨ d.length % 16 ≠ 0 then d ++ 128 :: List.replicate (15 - d.length % 16) 0 else d
def mKey (E : (Nat → UInt8) → Nat → UInt8) (d : List UInt8) : Nat → UInt8 := if d.length = 0 ∨ d.length % 16 ≠ 0 then dbB (dbB (E z0)) else dbB (E z0)
/-- These data, with the key put into the last block. -/
def mEnd (M : List UInt8) (k : Nat → UInt8) : List UInt8 := M.take (M.length - 16) ++ toL (xoB (bkA M (M.length / 16 - 1)) k)
def macS (E : (Nat → UInt8) → Nat → UInt8) (d : List UInt8) : Nat → UInt8 := chTo E z0 (mEnd (mPad d) (mKey E d)) ((mPad d).length / 16)
theorem mPad_len (d : List UInt8) : (mPad d).length % 16 = 0 ∧ 16 ≤ (mPad d).length ∧ (mPad d).length ≤ d.length + 16 := by
  unfold mPad
  split
  · rw [List.length_append, List.length_cons, List.length_replicate]; omega
  · omega
theorem mEnd_len {M : List UInt8} {k : Nat → UInt8} (h : 16 ≤ M.length) : (mEnd M k).length = M.length := by unfold mEnd; rw [List.length_append, List.length_take, toL_len]; omega
theorem own_take {w : World} {B g n cap k : Nat} {e : TypeId} {xs : List Value} (h : w.ownsRow B e 1 (.slice (some ⟨g, 0, none⟩) n cap) n xs) (hk : k ≤ n) : w.ownsRow B e 1 (.slice (some ⟨g, 0, none⟩) k cap) k (xs.take k) := by
  refine ⟨by rw [List.length_take, h.1]; omega, ?_⟩
  rcases h.2 with ⟨h0, _⟩ | ⟨g', cap', cur, he, hb, hg, hc, hm, hs, ht⟩
  · cases h0
  · cases he
    refine .inr ⟨g, cap, cur, rfl, hb, hg, by omega, hm, hs, ?_⟩
    rw [← ht, List.take_take]
    congr 1; omega
/-- The last sixteen bytes of one's own row. -/
theorem by_last {w : World} {B g cap : Nat} {M : List UInt8} (h : w.ownsRow B 5 1 (.slice (some ⟨g, 0, none⟩) M.length cap) M.length (M.map encB)) (h16 : 16 ≤ M.length) (hm : M.length % 16 = 0) (c' : Nat) : ByAt w (.slice (some ⟨g, M.length - 16, none⟩) 16 c') (toL (bkA M (M.length / 16 - 1))) := by
  have := by_piece (row_by h) (q := M.length / 16 - 1) (by omega) c'
  rw [show 0 + 16 * (M.length / 16 - 1) = M.length - 16 by omega] at this
  exact this
theorem ch_bkA {E : (Nat → UInt8) → Nat → UInt8} {M : List UInt8} (h16 : 16 ≤ M.length) (hm : M.length % 16 = 0) : toL (bkA (chS E z0 M) (M.length / 16 - 1)) = toL (chTo E z0 M (M.length / 16)) := by
  rw [toL_congr (ch_bk (by omega)), show M.length / 16 - 1 + 1 = M.length / 16 by omega]
def lenV : Value → Nat
  | .slice _ n _ => n
  | _ => 0
theorem len_own {w : World} {B e sz n : Nat} {v : Value} {xs : List Value} (h : w.ownsRow B e sz v n xs) : lenV v = n := by
  rcases h.2 with ⟨rfl, rfl⟩ | ⟨g, cap, cur, rfl, _⟩ <;> rfl
set_option maxRecDepth 100000 in
theorem refMac_nil (v : Value) (w : World) : Calls Try.prog 29 #[.pointer none, v] w fun e w' => e = .returned (.tuple #[.slice none 0 0, .int .i64 2]) ∧ w' = w := by
  go_enter Try.func29, Try.ntmps29
  go_wp2_with fail
  refine bodyPost_ret (v := .tuple #[.slice none 0 0, .int .i64 2]) (by simp [results, Try.results29, go_sem]) rfl ?_
  exact ⟨rfl, rfl⟩
theorem make_zero (w : World) : Sem.run Try.prog (Instr.makeSlice 22 (.int .i64 16) (.int .i64 16)) w = .ok (.slice (some ⟨w.heap.size, 0, none⟩) 16 16) (w.alloc (.cells (rowZ .u8 16 (fun _ => 0)) (5 : TypeId))) := by
  have h := run_make_row' (P := Try.prog) 22 5 (.int .u8 0) 1 Try.underlying22 Try.info5 rfl .i64 .i64 16 (by omega) (by omega) w
  have e : madeCells #[Value.int .u8 0] 16 = rowZ .u8 16 (fun _ => 0) := by
    unfold rowZ
    rw [show (List.range 16).map (fun _ => Value.int .u8 0) = List.replicate 16 (Value.int .u8 0) from map_same 16 _, ← toList_madeCells_one]
  rw [e] at h
  exact h
theorem zero_row (w : World) : ByAt (w.alloc (.cells (rowZ .u8 16 (fun _ => 0)) (5 : TypeId))) (.slice (some ⟨w.heap.size, 0, none⟩) 16 16) (toL z0) := by
  refine .inr ⟨w.heap.size, 0, 16, by rw [toL_len], by simp, fun j hj => ?_⟩
  rw [toL_len] at hj
  rw [Nat.zero_add, cell_of_row _ _ _ _ _ _ (heap_alloc_last _ _), rowZ_get .u8 16 _ j hj]
  show _ = some (encB (blk (toL z0) j))
  rw [blk_toL hj]; rfl
set_option maxRecDepth 100000 in
set_option maxHeartbeats 1600000 in
theorem refMac_any (d : List UInt8) (hd : d.length ≤ 140737488355100) (n : Nat) (hn : n ≤ 8) (key : Nat → UInt8) (b : Nat) (u : Value) (w : World) (h : RcAt w b n key) (hu : ByAt w u d) : Calls Try.prog 29 #[.pointer (some ⟨b, 0, none⟩), u] w fun e w' => ∃ vo, e = .returned (.tuple #[vo, .int .i64 0]) ∧ ByAt w' vo (toL (macS (enS (n + 6) (rkS n key)) d)) ∧ Below w.heap.size w w' := by
  have HEN : Hid (∀ c wA vn, Below w.heap.size w wA → ByAt wA vn (toL c) → Calls Try.prog 17 #[.pointer (some ⟨b, 0, none⟩), vn] wA fun e w' => ∃ vo, e = .returned (.tuple #[vo, .int .i64 0]) ∧ w'.ownsRow wA.heap.size 5 1 vo 16 ((toL (enS (n + 6) (rkS n key) c)).map encB) ∧ Below wA.heap.size wA w') := fun c wA vn hb hvn => by
    have := refEncrypt_any (toL c) (toL_len c) n hn key b vn wA (h.next hb) hvn
    rw [enc_row] at this
    exact this
  have HDB : Hid (∀ x wA vx, ByAt wA vx (toL x) → Calls Try.prog 58 #[vx] wA fun e w' => ∃ vo, e = .returned vo ∧ w'.ownsRow wA.heap.size 5 1 vo 16 ((toL (dbB x)).map encB) ∧ Below wA.heap.size wA w') := fun x wA vx hx => by
    have h1 := refDouble_any (toL x) (toL_len x) vx wA hx
    have h2 : toL (dbB (blk (toL x))) = toL (dbB x) := toL_congr fun i hi => by
      have hb := blk_same x
      unfold dbB
      have e1 : ∀ j, j < 16 → db1 (blk (toL x)) j = db1 x j := fun j hj => by
        unfold db1
        rw [hb j hj]
        by_cases h15 : j < 15
        · rw [if_pos h15, if_pos h15, hb (j + 1) (by omega)]
        · rw [if_neg h15, if_neg h15]
      rw [hb 0 (by omega), e1 15 (by omega), e1 i hi]
    rw [h2] at h1
    exact h1
  have HXO : Hid (∀ x y wA vx vy, ByAt wA vx (toL x) → ByAt wA vy (toL y) → Calls Try.prog 55 #[vx, vy] wA fun e w' => ∃ vo, e = .returned vo ∧ w'.ownsRow wA.heap.size 5 1 vo 16 ((toL (xoB x y)).map encB) ∧ Below wA.heap.size wA w') := fun x y wA vx vy hx hy => by
    have := refXor_any (toL x) (toL y) (by rw [toL_len, toL_len]) (by rw [toL_len]; omega) vx vy wA hx hy
    rw [toL_len, xor_toL] at this
    exact this
  have HCH : Hid (∀ M wA vz vd, M.length ≤ 140737488355200 → M.length % 16 = 0 → Below w.heap.size w wA → ByAt wA vz (toL z0) → SlAt wA vd M → Calls Try.prog 25 #[.pointer (some ⟨b, 0, none⟩), vz, vd] wA fun e w' => ∃ vo, e = .returned (.tuple #[vo, .int .i64 0]) ∧ w'.ownsRow wA.heap.size 5 1 vo M.length ((chS (enS (n + 6) (rkS n key)) z0 M).map encB) ∧ Below wA.heap.size wA w') := fun M wA vz vd h1 h2 hb hz hs => by
    have := refChain_any (toL z0) M (toL_len z0) h1 h2 n hn key b vz vd wA (h.next hb) hz hs
    rw [blk_z0] at this
    exact this
  have HU := hidD hu
  obtain ⟨a1, c1, rfl, hsh1⟩ := hu.shape
  clear hsh1 hu h hn
  generalize enS (n + 6) (rkS n key) = E at *
  have HAL : Hid (∀ (w' : World) o, Below w'.heap.size w' (w'.alloc o)) := fun w' o => (Below.refl _ _).alloc (Nat.le_refl _) o
  have HZR := hidD (zero_row w)
  have HPL := hidD (mPad_len d)
  by_cases hP : d.length = 0 ∨ d.length % 16 ≠ 0
  · have hMP : mPad d = d ++ 128 :: List.replicate (15 - d.length % 16) 0 := by unfold mPad; rw [if_pos hP]
    have hMK : mKey E d = dbB (dbB (E z0)) := by unfold mKey; rw [if_pos hP]
    have HMS : Hid (toL (macS E d) = toL (chTo E z0 (mEnd (mPad d) (dbB (dbB (E z0)))) ((mPad d).length / 16))) := by show _ = _; unfold macS; rw [hMK]
    have hML0 : (mPad d).length = d.length + 1 + (15 - d.length % 16) := by rw [hMP, List.length_append, List.length_cons, List.length_replicate]; omega
    have HGR : Hid (∀ k, d ++ 128 :: List.replicate (k + 1) (0 : UInt8) = (d ++ 128 :: List.replicate k (0 : UInt8)) ++ [0]) := fun k => by
      rw [List.append_assoc, List.cons_append, ← List.replicate_succ']
    have HMPF := hidD hMP
    generalize mPad d = M at *
    have hM16 : M.length % 16 = 0 := HPL.out.1
    have hMp : 16 ≤ M.length := HPL.out.2.1
    have hMb : M.length ≤ 140737488355200 := by have := HPL.out.2.2; omega
    clear hMP hMK HPL
    have HDD : Hid (d.length + 1 + (15 - d.length % 16) = M.length) := hML0.symm
    have HZN : Hid (15 - d.length % 16 ≤ 15) := by show _ ≤ _; omega
    have HEND : Hid (∀ k, k < 15 - d.length % 16 → (d.length + 1 + k) % 16 ≠ 0) := fun k hk => by omega
    generalize hZN : 15 - d.length % 16 = ZN at *
    generalize hD : d.length = D at *
    have HDL := hidD hD
    clear hD hZN hML0
    generalize hMM : M.length = ML at *
    have HML := hidD hMM
    clear hMM
    have hmk := make_zero w
    have hds : ML - (ML - 16) = 16 := by omega
    have hsb : (ML : Int) - 16 = ((ML - 16 : Nat) : Int) := by omega
    have HEL : Hid ((mEnd M (dbB (dbB (E z0)))).length = ML) := by show _ = _; rw [mEnd_len (by rw [HML.out]; exact hMp)]; exact HML.out
    have HEM : Hid ((M.map encB).take (ML - 16) ++ (toL (xoB (bkA M (ML / 16 - 1)) (dbB (dbB (E z0))))).map encB = (mEnd M (dbB (dbB (E z0)))).map encB) := by
      show _ = _
      unfold mEnd
      rw [HML.out, List.map_append, List.map_take]
    have HBLA : Hid (∀ wA B g cap c', wA.ownsRow B 5 1 (.slice (some ⟨g, 0, none⟩) ML cap) ML (M.map encB) → ByAt wA (.slice (some ⟨g, ML - 16, none⟩) 16 c') (toL (bkA M (ML / 16 - 1)))) := fun wA B g cap c' ho => by
      have h1 := by_last (M := M) (g := g) (cap := cap) (by rw [HML.out]; exact ho) (by rw [HML.out]; exact hMp) (by rw [HML.out]; exact hM16) c'
      rw [HML.out] at h1; exact h1
    have HCHA : Hid (∀ wA B g cap c', wA.ownsRow B 5 1 (.slice (some ⟨g, 0, none⟩) ML cap) ML ((chS E z0 (mEnd M (dbB (dbB (E z0))))).map encB) → ByAt wA (.slice (some ⟨g, ML - 16, none⟩) 16 c') (toL (chTo E z0 (mEnd M (dbB (dbB (E z0)))) (ML / 16)))) := fun wA B g cap c' ho => by
      have hl : (chS E z0 (mEnd M (dbB (dbB (E z0))))).length = ML := by rw [ch_len]; exact HEL.out
      have h1 := by_last (M := chS E z0 (mEnd M (dbB (dbB (E z0))))) (g := g) (cap := cap) (by rw [hl]; exact ho) (by rw [hl]; exact hMp) (by rw [hl]; exact hM16) c'
      rw [hl] at h1
      have h2 := ch_bkA (E := E) (M := mEnd M (dbB (dbB (E z0)))) (by rw [HEL.out]; exact hMp) (by rw [HEL.out]; exact hM16)
      rw [HEL.out] at h2
      rw [h2] at h1; exact h1
    rcases (show D = 0 ∨ (¬ D = 0 ∧ D % 16 ≠ 0) by omega) with hc | ⟨hc, hc2⟩
    · have e1 : ((D : Int) == 0) = true := by
        have : ((D : Int) = 0) := by omega
        simpa using this
      clear hc
      go_enter Try.func29, Try.ntmps29
      go_wp2_with (first
        | (go_at_call 17; refine (HEN.out z0 _ _ (HAL.out _ _) HZR.out).mono ?_; rintro e w1 ⟨vl, rfl, hol, hb1⟩; obtain ⟨gl, cl, hvl, _, _, _⟩ := row_shapeC hol (by omega); subst hvl; have HB1 : Hid (Below w.heap.size w w1) := Below.next (HAL.out w _) hb1; have HZ1 := hidD (HZR.out.next hb1); have HL1 : Hid (ByAt w1 (.slice (some ⟨gl, 0, none⟩) 16 cl) (toL (E z0))) := row_by (by rw [toL_len]; exact hol); clear hol hb1)
        | (go_at_call 58; refine (HDB.out (E z0) _ _ HL1.out).mono ?_; rintro e w2 ⟨vk, rfl, hok, hb2⟩; obtain ⟨gk, ck, hvk, _, _, _⟩ := row_shapeC hok (by omega); subst hvk; have HB2 : Hid (Below w.heap.size w w2) := Below.next HB1.out hb2; have HZ2 := hidD (HZ1.out.next hb2); have HK2 : Hid (ByAt w2 (.slice (some ⟨gk, 0, none⟩) 16 ck) (toL (dbB (E z0)))) := row_by (by rw [toL_len]; exact hok); clear hok hb2 HL1 HB1 HZ1)
        | (at_builtin; refine wpList_append_by rfl _ _ rfl w2.heap.size (.slice (some ⟨w2.heap.size, 0, none⟩) 0 0) 0 [] rfl (empty_ownB w2) (.slice a1 D c1) d rfl (HU.out.next (Below.next HB2.out (HAL.out _ _))) (by rw [HDL.out]; omega) (by simp) ?_; intro v3 w3 hown3 hg3; rw [HDL.out, Nat.zero_add, List.nil_append] at hown3; obtain ⟨a3, c3, hv3⟩ := row_shape hown3; subst hv3; have HO3 := hidD hown3; have HB3 : Hid (Below w2.heap.size w2 w3) := row_grown (empty_ownB w2) (HAL.out w2 _) hg3 (by simp); have HK3 := hidD (HK2.out.next HB3.out); clear hown3 hg3 HU HK2)
        | (go_at_call 58; refine (HDB.out (dbB (E z0)) _ _ HK3.out).mono ?_; rintro e w33 ⟨vk2, rfl, hok2, hb33⟩; obtain ⟨gk2, ck2, hvk2, hgk2, _, _⟩ := row_shapeC hok2 (by omega); subst hvk2; have HB33 : Hid (Below w2.heap.size w2 w33) := HB3.out.trans (hb33.mono HB3.out.size); have HO33 := hidD (row_below HO3.out hb33); have HKL : Hid (some gk2 ≠ (Value.slice a3 D c3).ownBlock) := own_lt HO3.out hgk2; have HKW : Hid (w33.ownsRow w2.heap.size 5 1 (.slice (some ⟨gk2, 0, none⟩) 16 ck2) 16 ((toL (dbB (dbB (E z0)))).map encB)) := own_mono hok2 HB3.out.size; clear hok2 hb33 hgk2 HO3 HB3 HK3)
        | (at_builtin; refine wpList_append_byB rfl _ _ rfl w2.heap.size (.slice a3 D c3) D (d.map encB) rfl (HO33.out.alloc _) (.slice (some ⟨w33.heap.size, 0, none⟩) 1 1) [128] rfl (by_new w33 128 128 rfl) (by simp) (by simp; omega) (by have := HB33.out.size; simp; omega) ?_; intro v34 w34 hown34 hg34 hbk34; have HO34 := hidD hown34; have HG34 := hidD hg34; have HBK34 := hidD hbk34; clear hown34 hg34 hbk34))
      have HOL : Hid (w34.ownsRow w2.heap.size 5 1 v34 (D + 1 + 0) ((d ++ 128 :: List.replicate 0 (0 : UInt8)).map encB)) := by
        show World.ownsRow _ _ _ _ _ _ _
        rw [List.map_append]; exact HO34.out
      have HBL4 : Hid (Below w2.heap.size w2 w34) := row_grown (HO33.out.alloc _) (HB33.out.trans ((HAL.out w33 _).mono HB33.out.size)) HG34.out (by have := HB33.out.size; simp; omega)
      have HKL4 : Hid (w34.ownsRow w2.heap.size 5 1 (.slice (some ⟨gk2, 0, none⟩) 16 ck2) 16 ((toL (dbB (dbB (E z0)))).map encB)) := own_grown (row_below HKW.out (HAL.out w33 _)) HG34.out (.inl HKL.out)
      have HNE4 : Hid (some gk2 ≠ v34.ownBlock) := by
        rcases HBK34.out with h | h
        · show _ ≠ _; rw [h]; exact HKL.out
        · show _ ≠ _; rw [h]
          obtain ⟨g, c, he, _, hl, _⟩ := row_shapeC HKW.out (by omega)
          cases he
          simp; omega
      clear HO34 HG34 HBK34 HO33 HB33 HKL HKW
      go_loopw [10] (fun o wr => ∃ k : Nat, k ≤ ZN ∧ wr.ownsRow w2.heap.size 5 1 o (D + 1 + k) ((d ++ 128 :: List.replicate k (0 : UInt8)).map encB) ∧ Below w2.heap.size w2 wr ∧ wr.ownsRow w2.heap.size 5 1 (.slice (some ⟨gk2, 0, none⟩) 16 ck2) 16 ((toL (dbB (dbB (E z0)))).map encB) ∧ some gk2 ≠ o.ownBlock) (fun o _ => D + 1 + ZN - lenV o)
      case atStart => exact ⟨0, Nat.zero_le _, HOL.out, HBL4.out, HKL4.out, HNE4.out⟩
      case round =>
        clear HOL HBL4 HKL4 HNE4
        obtain ⟨k, hk, hou, hbe, hky, hne⟩ := hrel
        obtain ⟨gd, cd, hvd, hgd, hgdl, hcd⟩ := row_shapeC hou (by omega)
        subst hvd
        have HOU := hidD hou
        have HBE := hidD hbe
        have HKY := hidD hky
        have HNE := hidD hne
        by_cases hlt : k < ZN
        · have hmod := HEND.out k hlt
          have hmodi : (((D + 1 + k : Nat) : Int) % 16 != 0) = true := by
            have : ¬ (((D + 1 + k : Nat) : Int) % 16 = 0) := by omega
            simpa using this
          have HGK2 := hidD (HGR.out k)
          have hbb : D + 1 + k ≤ 140737488355200 := by have := HDD.out; omega
          have HSZ2 := hidD hbe.size
          clear hou hbe hky hne hmod hgd hgdl
          generalize d ++ 128 :: List.replicate k (0 : UInt8) = L at *
          have HIK : Hid (D + 1 + (k + 1) = D + 1 + k + 1) := rfl
          generalize hI : D + 1 + k = I at *
          have HI := hidD hI
          clear hI
          go_wp2_with (at_builtin; refine wpList_append_byB rfl _ _ rfl w2.heap.size (.slice (some ⟨gd, 0, none⟩) I cd) I (L.map encB) rfl (HOU.out.alloc _) (.slice (some ⟨wr.heap.size, 0, none⟩) 1 1) [0] rfl (by_new wr 0 0 rfl) (by simp) (by simp; omega) (by have := HSZ2.out; simp; omega) ?_; intro v9 w9 hown9 hg9 hbk9; have HO9 := hidD hown9; have HG9 := hidD hg9; have HBK9 := hidD hbk9; have HSH9 : Hid (lenV v9 = I + 1) := len_own hown9; clear hown9 hg9 hbk9)
          have HB9 : Hid (Below w2.heap.size w2 w9) := row_grown (HOU.out.alloc _) (HBE.out.trans ((HAL.out wr _).mono HBE.out.size)) HG9.out (by have := HSZ2.out; simp; omega)
          have HK9 : Hid (w9.ownsRow w2.heap.size 5 1 (.slice (some ⟨gk2, 0, none⟩) 16 ck2) 16 ((toL (dbB (dbB (E z0)))).map encB)) := own_grown (row_below HKY.out (HAL.out wr _)) HG9.out (.inl HNE.out)
          have HNE9 : Hid (some gk2 ≠ v9.ownBlock) := by
            rcases HBK9.out with h | h
            · show _ ≠ _; rw [h]; exact HNE.out
            · show _ ≠ _; rw [h]
              obtain ⟨g, c, he, _, hl, _⟩ := row_shapeC HKY.out (by omega)
              cases he
              simp; omega
          go_roundw
          case rel => exact ⟨k + 1, by omega, by rw [HIK.out, HGK2.out, List.map_append]; exact HO9.out, HB9.out, HK9.out, HNE9.out⟩
          case measure => have h9 := HSH9.out; have hI := HI.out; rw [h9]; simp only [lenV]; omega
        · obtain rfl : k = ZN := by omega
          have hmodi : (((D + 1 + k : Nat) : Int) % 16 != 0) = false := by
            have : (((D + 1 + k : Nat) : Int) % 16 = 0) := by have := HDD.out; omega
            simpa using this
          have HO3 : Hid (wr.ownsRow w2.heap.size 5 1 (.slice (some ⟨gd, 0, none⟩) ML cd) ML (M.map encB)) := by
            have h1 := hou
            rw [HDD.out, ← HMPF.out] at h1
            exact h1
          have HB3 := HBE
          have HK3 : Hid (ByAt wr (.slice (some ⟨gk2, 0, none⟩) 16 ck2) (toL (dbB (dbB (E z0))))) := row_by (by rw [toL_len]; exact hky)
          have HDE := HDD
          have hcne : ¬ cd = ML - 16 := by have := HDD.out; omega
          have hcne2 : ML ≤ cd := by have := HDD.out; omega
          clear hcd
          clear hou hbe hky hne hgd hgdl HOU HBE HKY HNE HGR HEND
          rw [HDE.out] at *
          go_wp2_with (first
            | (go_at_call 55; refine (HXO.out (bkA M (ML / 16 - 1)) (dbB (dbB (E z0))) _ _ _ (HBLA.out _ _ _ _ _ HO3.out) HK3.out).mono ?_; rintro e w4 ⟨ve, rfl, hoe, hb4⟩; obtain ⟨ge, ce, hve, _, _, _⟩ := row_shapeC hoe (by omega); subst hve; have HE4 : Hid (ByAt w4 (.slice (some ⟨ge, 0, none⟩) 16 ce) (toL (xoB (bkA M (ML / 16 - 1)) (dbB (dbB (E z0)))))) := row_by (by rw [toL_len]; exact hoe); have HO4 := hidD (own_take (row_below HO3.out hb4) (k := ML - 16) (by omega)); have HB4 : Hid (Below w2.heap.size w2 w4) := HB3.out.trans (hb4.mono HB3.out.size); clear hoe hb4 HO3 HK3 HB3)
            | (at_builtin; refine wpList_append_by rfl _ _ rfl w2.heap.size (.slice (some ⟨gd, 0, none⟩) (ML - 16) cd) (ML - 16) ((M.map encB).take (ML - 16)) rfl HO4.out (.slice (some ⟨ge, 0, none⟩) 16 ce) (toL (xoB (bkA M (ML / 16 - 1)) (dbB (dbB (E z0))))) rfl HE4.out (by rw [toL_len]; omega) HB4.out.size ?_; intro v5 w5 hown5 hg5; rw [toL_len, HEM.out, show ML - 16 + 16 = ML by omega] at hown5; obtain ⟨g5, c5, hv5, _, _, _⟩ := row_shapeC hown5 (by omega); subst hv5; have HS5 : Hid (SlAt w5 (.slice (some ⟨g5, 0, none⟩) ML c5) (mEnd M (dbB (dbB (E z0))))) := sl_of_own (base := w2.heap.size) (by rw [HEL.out]; exact hown5); have HB5 := hidD (row_grown HO4.out HB4.out hg5 HB4.out.size); clear hown5 hg5 HO4 HE4 HB4)
            | (go_at_call 25; refine (HCH.out (mEnd M (dbB (dbB (E z0)))) _ _ _ (by rw [HEL.out]; exact hMb) (by rw [HEL.out]; exact hM16) (HB2.out.trans (HB5.out.mono HB2.out.size)) (HZ2.out.next HB5.out) HS5.out).mono ?_; rintro e w6 ⟨va, rfl, hoa, hb6⟩; rw [HEL.out] at hoa; obtain ⟨ga, ca, hva, _, _, hca⟩ := row_shapeC hoa (by omega); subst hva; have HA6 := hidD (fun c' => HCHA.out _ _ _ _ c' hoa); have HB6 : Hid (Below w.heap.size w w6) := Below.next (HB2.out.trans (HB5.out.mono HB2.out.size)) hb6; clear hoa hb6 HS5 HB5 HZ2)
            | (at_builtin; refine wpList_append_fresh rfl _ _ rfl rfl (.slice (some ⟨ga, ML - 16, none⟩) 16 (ca - (ML - 16))) (toL (chTo E z0 (mEnd M (dbB (dbB (E z0)))) (ML / 16))) rfl (HA6.out _) (by rw [toL_len]; omega) ?_; intro v7 w7 hsl hb7; have HS7 := hidD hsl; have HB7 := hidD hb7; clear hsl hb7))
          refine bodyPost_ret (v := .tuple #[v7, .int .i64 0]) (by simp [results, Try.results29, go_sem]) rfl ?_
          exact ⟨_, rfl, by rw [HMS.out]; exact HS7.out.by', Below.next HB6.out HB7.out⟩
    · have e1 : ((D : Int) == 0) = false := by
        have : ¬ ((D : Int) = 0) := by omega
        simpa using this
      have e2 : ((D : Int) % 16 != 0) = true := by
        have : ¬ ((D : Int) % 16 = 0) := by omega
        simpa using this
      clear hc hc2
      go_enter Try.func29, Try.ntmps29
      go_wp2_with (first
        | (go_at_call 17; refine (HEN.out z0 _ _ (HAL.out _ _) HZR.out).mono ?_; rintro e w1 ⟨vl, rfl, hol, hb1⟩; obtain ⟨gl, cl, hvl, _, _, _⟩ := row_shapeC hol (by omega); subst hvl; have HB1 : Hid (Below w.heap.size w w1) := Below.next (HAL.out w _) hb1; have HZ1 := hidD (HZR.out.next hb1); have HL1 : Hid (ByAt w1 (.slice (some ⟨gl, 0, none⟩) 16 cl) (toL (E z0))) := row_by (by rw [toL_len]; exact hol); clear hol hb1)
        | (go_at_call 58; refine (HDB.out (E z0) _ _ HL1.out).mono ?_; rintro e w2 ⟨vk, rfl, hok, hb2⟩; obtain ⟨gk, ck, hvk, _, _, _⟩ := row_shapeC hok (by omega); subst hvk; have HB2 : Hid (Below w.heap.size w w2) := Below.next HB1.out hb2; have HZ2 := hidD (HZ1.out.next hb2); have HK2 : Hid (ByAt w2 (.slice (some ⟨gk, 0, none⟩) 16 ck) (toL (dbB (E z0)))) := row_by (by rw [toL_len]; exact hok); clear hok hb2 HL1 HB1 HZ1)
        | (at_builtin; refine wpList_append_by rfl _ _ rfl w2.heap.size (.slice (some ⟨w2.heap.size, 0, none⟩) 0 0) 0 [] rfl (empty_ownB w2) (.slice a1 D c1) d rfl (HU.out.next (Below.next HB2.out (HAL.out _ _))) (by rw [HDL.out]; omega) (by simp) ?_; intro v3 w3 hown3 hg3; rw [HDL.out, Nat.zero_add, List.nil_append] at hown3; obtain ⟨a3, c3, hv3⟩ := row_shape hown3; subst hv3; have HO3 := hidD hown3; have HB3 : Hid (Below w2.heap.size w2 w3) := row_grown (empty_ownB w2) (HAL.out w2 _) hg3 (by simp); have HK3 := hidD (HK2.out.next HB3.out); clear hown3 hg3 HU HK2)
        | (go_at_call 58; refine (HDB.out (dbB (E z0)) _ _ HK3.out).mono ?_; rintro e w33 ⟨vk2, rfl, hok2, hb33⟩; obtain ⟨gk2, ck2, hvk2, hgk2, _, _⟩ := row_shapeC hok2 (by omega); subst hvk2; have HB33 : Hid (Below w2.heap.size w2 w33) := HB3.out.trans (hb33.mono HB3.out.size); have HO33 := hidD (row_below HO3.out hb33); have HKL : Hid (some gk2 ≠ (Value.slice a3 D c3).ownBlock) := own_lt HO3.out hgk2; have HKW : Hid (w33.ownsRow w2.heap.size 5 1 (.slice (some ⟨gk2, 0, none⟩) 16 ck2) 16 ((toL (dbB (dbB (E z0)))).map encB)) := own_mono hok2 HB3.out.size; clear hok2 hb33 hgk2 HO3 HB3 HK3)
        | (at_builtin; refine wpList_append_byB rfl _ _ rfl w2.heap.size (.slice a3 D c3) D (d.map encB) rfl (HO33.out.alloc _) (.slice (some ⟨w33.heap.size, 0, none⟩) 1 1) [128] rfl (by_new w33 128 128 rfl) (by simp) (by simp; omega) (by have := HB33.out.size; simp; omega) ?_; intro v34 w34 hown34 hg34 hbk34; have HO34 := hidD hown34; have HG34 := hidD hg34; have HBK34 := hidD hbk34; clear hown34 hg34 hbk34))
      have HOL : Hid (w34.ownsRow w2.heap.size 5 1 v34 (D + 1 + 0) ((d ++ 128 :: List.replicate 0 (0 : UInt8)).map encB)) := by
        show World.ownsRow _ _ _ _ _ _ _
        rw [List.map_append]; exact HO34.out
      have HBL4 : Hid (Below w2.heap.size w2 w34) := row_grown (HO33.out.alloc _) (HB33.out.trans ((HAL.out w33 _).mono HB33.out.size)) HG34.out (by have := HB33.out.size; simp; omega)
      have HKL4 : Hid (w34.ownsRow w2.heap.size 5 1 (.slice (some ⟨gk2, 0, none⟩) 16 ck2) 16 ((toL (dbB (dbB (E z0)))).map encB)) := own_grown (row_below HKW.out (HAL.out w33 _)) HG34.out (.inl HKL.out)
      have HNE4 : Hid (some gk2 ≠ v34.ownBlock) := by
        rcases HBK34.out with h | h
        · show _ ≠ _; rw [h]; exact HKL.out
        · show _ ≠ _; rw [h]
          obtain ⟨g, c, he, _, hl, _⟩ := row_shapeC HKW.out (by omega)
          cases he
          simp; omega
      clear HO34 HG34 HBK34 HO33 HB33 HKL HKW
      go_loopw [10] (fun o wr => ∃ k : Nat, k ≤ ZN ∧ wr.ownsRow w2.heap.size 5 1 o (D + 1 + k) ((d ++ 128 :: List.replicate k (0 : UInt8)).map encB) ∧ Below w2.heap.size w2 wr ∧ wr.ownsRow w2.heap.size 5 1 (.slice (some ⟨gk2, 0, none⟩) 16 ck2) 16 ((toL (dbB (dbB (E z0)))).map encB) ∧ some gk2 ≠ o.ownBlock) (fun o _ => D + 1 + ZN - lenV o)
      case atStart => exact ⟨0, Nat.zero_le _, HOL.out, HBL4.out, HKL4.out, HNE4.out⟩
      case round =>
        clear HOL HBL4 HKL4 HNE4
        obtain ⟨k, hk, hou, hbe, hky, hne⟩ := hrel
        obtain ⟨gd, cd, hvd, hgd, hgdl, hcd⟩ := row_shapeC hou (by omega)
        subst hvd
        have HOU := hidD hou
        have HBE := hidD hbe
        have HKY := hidD hky
        have HNE := hidD hne
        by_cases hlt : k < ZN
        · have hmod := HEND.out k hlt
          have hmodi : (((D + 1 + k : Nat) : Int) % 16 != 0) = true := by
            have : ¬ (((D + 1 + k : Nat) : Int) % 16 = 0) := by omega
            simpa using this
          have HGK2 := hidD (HGR.out k)
          have hbb : D + 1 + k ≤ 140737488355200 := by have := HDD.out; omega
          have HSZ2 := hidD hbe.size
          clear hou hbe hky hne hmod hgd hgdl
          generalize d ++ 128 :: List.replicate k (0 : UInt8) = L at *
          have HIK : Hid (D + 1 + (k + 1) = D + 1 + k + 1) := rfl
          generalize hI : D + 1 + k = I at *
          have HI := hidD hI
          clear hI
          go_wp2_with (at_builtin; refine wpList_append_byB rfl _ _ rfl w2.heap.size (.slice (some ⟨gd, 0, none⟩) I cd) I (L.map encB) rfl (HOU.out.alloc _) (.slice (some ⟨wr.heap.size, 0, none⟩) 1 1) [0] rfl (by_new wr 0 0 rfl) (by simp) (by simp; omega) (by have := HSZ2.out; simp; omega) ?_; intro v9 w9 hown9 hg9 hbk9; have HO9 := hidD hown9; have HG9 := hidD hg9; have HBK9 := hidD hbk9; have HSH9 : Hid (lenV v9 = I + 1) := len_own hown9; clear hown9 hg9 hbk9)
          have HB9 : Hid (Below w2.heap.size w2 w9) := row_grown (HOU.out.alloc _) (HBE.out.trans ((HAL.out wr _).mono HBE.out.size)) HG9.out (by have := HSZ2.out; simp; omega)
          have HK9 : Hid (w9.ownsRow w2.heap.size 5 1 (.slice (some ⟨gk2, 0, none⟩) 16 ck2) 16 ((toL (dbB (dbB (E z0)))).map encB)) := own_grown (row_below HKY.out (HAL.out wr _)) HG9.out (.inl HNE.out)
          have HNE9 : Hid (some gk2 ≠ v9.ownBlock) := by
            rcases HBK9.out with h | h
            · show _ ≠ _; rw [h]; exact HNE.out
            · show _ ≠ _; rw [h]
              obtain ⟨g, c, he, _, hl, _⟩ := row_shapeC HKY.out (by omega)
              cases he
              simp; omega
          go_roundw
          case rel => exact ⟨k + 1, by omega, by rw [HIK.out, HGK2.out, List.map_append]; exact HO9.out, HB9.out, HK9.out, HNE9.out⟩
          case measure => have h9 := HSH9.out; have hI := HI.out; rw [h9]; simp only [lenV]; omega
        · obtain rfl : k = ZN := by omega
          have hmodi : (((D + 1 + k : Nat) : Int) % 16 != 0) = false := by
            have : (((D + 1 + k : Nat) : Int) % 16 = 0) := by have := HDD.out; omega
            simpa using this
          have HO3 : Hid (wr.ownsRow w2.heap.size 5 1 (.slice (some ⟨gd, 0, none⟩) ML cd) ML (M.map encB)) := by
            have h1 := hou
            rw [HDD.out, ← HMPF.out] at h1
            exact h1
          have HB3 := HBE
          have HK3 : Hid (ByAt wr (.slice (some ⟨gk2, 0, none⟩) 16 ck2) (toL (dbB (dbB (E z0))))) := row_by (by rw [toL_len]; exact hky)
          have HDE := HDD
          have hcne : ¬ cd = ML - 16 := by have := HDD.out; omega
          have hcne2 : ML ≤ cd := by have := HDD.out; omega
          clear hcd
          clear hou hbe hky hne hgd hgdl HOU HBE HKY HNE HGR HEND
          rw [HDE.out] at *
          go_wp2_with (first
            | (go_at_call 55; refine (HXO.out (bkA M (ML / 16 - 1)) (dbB (dbB (E z0))) _ _ _ (HBLA.out _ _ _ _ _ HO3.out) HK3.out).mono ?_; rintro e w4 ⟨ve, rfl, hoe, hb4⟩; obtain ⟨ge, ce, hve, _, _, _⟩ := row_shapeC hoe (by omega); subst hve; have HE4 : Hid (ByAt w4 (.slice (some ⟨ge, 0, none⟩) 16 ce) (toL (xoB (bkA M (ML / 16 - 1)) (dbB (dbB (E z0)))))) := row_by (by rw [toL_len]; exact hoe); have HO4 := hidD (own_take (row_below HO3.out hb4) (k := ML - 16) (by omega)); have HB4 : Hid (Below w2.heap.size w2 w4) := HB3.out.trans (hb4.mono HB3.out.size); clear hoe hb4 HO3 HK3 HB3)
            | (at_builtin; refine wpList_append_by rfl _ _ rfl w2.heap.size (.slice (some ⟨gd, 0, none⟩) (ML - 16) cd) (ML - 16) ((M.map encB).take (ML - 16)) rfl HO4.out (.slice (some ⟨ge, 0, none⟩) 16 ce) (toL (xoB (bkA M (ML / 16 - 1)) (dbB (dbB (E z0))))) rfl HE4.out (by rw [toL_len]; omega) HB4.out.size ?_; intro v5 w5 hown5 hg5; rw [toL_len, HEM.out, show ML - 16 + 16 = ML by omega] at hown5; obtain ⟨g5, c5, hv5, _, _, _⟩ := row_shapeC hown5 (by omega); subst hv5; have HS5 : Hid (SlAt w5 (.slice (some ⟨g5, 0, none⟩) ML c5) (mEnd M (dbB (dbB (E z0))))) := sl_of_own (base := w2.heap.size) (by rw [HEL.out]; exact hown5); have HB5 := hidD (row_grown HO4.out HB4.out hg5 HB4.out.size); clear hown5 hg5 HO4 HE4 HB4)
            | (go_at_call 25; refine (HCH.out (mEnd M (dbB (dbB (E z0)))) _ _ _ (by rw [HEL.out]; exact hMb) (by rw [HEL.out]; exact hM16) (HB2.out.trans (HB5.out.mono HB2.out.size)) (HZ2.out.next HB5.out) HS5.out).mono ?_; rintro e w6 ⟨va, rfl, hoa, hb6⟩; rw [HEL.out] at hoa; obtain ⟨ga, ca, hva, _, _, hca⟩ := row_shapeC hoa (by omega); subst hva; have HA6 := hidD (fun c' => HCHA.out _ _ _ _ c' hoa); have HB6 : Hid (Below w.heap.size w w6) := Below.next (HB2.out.trans (HB5.out.mono HB2.out.size)) hb6; clear hoa hb6 HS5 HB5 HZ2)
            | (at_builtin; refine wpList_append_fresh rfl _ _ rfl rfl (.slice (some ⟨ga, ML - 16, none⟩) 16 (ca - (ML - 16))) (toL (chTo E z0 (mEnd M (dbB (dbB (E z0)))) (ML / 16))) rfl (HA6.out _) (by rw [toL_len]; omega) ?_; intro v7 w7 hsl hb7; have HS7 := hidD hsl; have HB7 := hidD hb7; clear hsl hb7))
          refine bodyPost_ret (v := .tuple #[v7, .int .i64 0]) (by simp [results, Try.results29, go_sem]) rfl ?_
          exact ⟨_, rfl, by rw [HMS.out]; exact HS7.out.by', Below.next HB6.out HB7.out⟩
  · have hMP : mPad d = d := by unfold mPad; rw [if_neg hP]
    have hMK : mKey E d = dbB (E z0) := by unfold mKey; rw [if_neg hP]
    have HMS : Hid (toL (macS E d) = toL (chTo E z0 (mEnd d (dbB (E z0))) (d.length / 16))) := by show _ = _; unfold macS; rw [hMP, hMK]
    have e1 : ((d.length : Int) == 0) = false := by
      have : ¬ ((d.length : Int) = 0) := by omega
      simpa using this
    have e2 : ((d.length : Int) % 16 != 0) = false := by
      have : ((d.length : Int) % 16 = 0) := by omega
      simpa using this
    have hM16 : d.length % 16 = 0 := by omega
    have hMp : 16 ≤ d.length := by omega
    have hMb : d.length ≤ 140737488355200 := by omega
    clear hMP hMK hP
    generalize hD : d.length = D at *
    have HML := hidD hD
    clear hD
    have hmk := make_zero w
    have hds : D - (D - 16) = 16 := by omega
    have hsb : (D : Int) - 16 = ((D - 16 : Nat) : Int) := by omega
    have HEL : Hid ((mEnd d (dbB (E z0))).length = D) := by show _ = _; rw [mEnd_len (by rw [HML.out]; exact hMp)]; exact HML.out
    have HEM : Hid ((d.map encB).take (D - 16) ++ (toL (xoB (bkA d (D / 16 - 1)) (dbB (E z0)))).map encB = (mEnd d (dbB (E z0))).map encB) := by
      show _ = _
      unfold mEnd
      rw [HML.out, List.map_append, List.map_take]
    have HBLA : Hid (∀ wA B g cap c', wA.ownsRow B 5 1 (.slice (some ⟨g, 0, none⟩) D cap) D (d.map encB) → ByAt wA (.slice (some ⟨g, D - 16, none⟩) 16 c') (toL (bkA d (D / 16 - 1)))) := fun wA B g cap c' ho => by
      have h1 := by_last (M := d) (g := g) (cap := cap) (by rw [HML.out]; exact ho) (by rw [HML.out]; exact hMp) (by rw [HML.out]; exact hM16) c'
      rw [HML.out] at h1; exact h1
    have HCHA : Hid (∀ wA B g cap c', wA.ownsRow B 5 1 (.slice (some ⟨g, 0, none⟩) D cap) D ((chS E z0 (mEnd d (dbB (E z0)))).map encB) → ByAt wA (.slice (some ⟨g, D - 16, none⟩) 16 c') (toL (chTo E z0 (mEnd d (dbB (E z0))) (D / 16)))) := fun wA B g cap c' ho => by
      have hl : (chS E z0 (mEnd d (dbB (E z0)))).length = D := by rw [ch_len]; exact HEL.out
      have h1 := by_last (M := chS E z0 (mEnd d (dbB (E z0)))) (g := g) (cap := cap) (by rw [hl]; exact ho) (by rw [hl]; exact hMp) (by rw [hl]; exact hM16) c'
      rw [hl] at h1
      have h2 := ch_bkA (E := E) (M := mEnd d (dbB (E z0))) (by rw [HEL.out]; exact hMp) (by rw [HEL.out]; exact hM16)
      rw [HEL.out] at h2
      rw [h2] at h1; exact h1
    go_enter Try.func29, Try.ntmps29
    go_wp2_with (first
      | (go_at_call 17; refine (HEN.out z0 _ _ (HAL.out _ _) HZR.out).mono ?_; rintro e w1 ⟨vl, rfl, hol, hb1⟩; obtain ⟨gl, cl, hvl, _, _, _⟩ := row_shapeC hol (by omega); subst hvl; have HB1 : Hid (Below w.heap.size w w1) := Below.next (HAL.out w _) hb1; have HZ1 := hidD (HZR.out.next hb1); have HL1 : Hid (ByAt w1 (.slice (some ⟨gl, 0, none⟩) 16 cl) (toL (E z0))) := row_by (by rw [toL_len]; exact hol); clear hol hb1)
      | (go_at_call 58; refine (HDB.out (E z0) _ _ HL1.out).mono ?_; rintro e w2 ⟨vk, rfl, hok, hb2⟩; obtain ⟨gk, ck, hvk, _, _, _⟩ := row_shapeC hok (by omega); subst hvk; have HB2 : Hid (Below w.heap.size w w2) := Below.next HB1.out hb2; have HZ2 := hidD (HZ1.out.next hb2); have HK2 : Hid (ByAt w2 (.slice (some ⟨gk, 0, none⟩) 16 ck) (toL (dbB (E z0)))) := row_by (by rw [toL_len]; exact hok); clear hok hb2 HL1 HB1 HZ1)
      | (at_builtin; refine wpList_append_by rfl _ _ rfl w2.heap.size (.slice (some ⟨w2.heap.size, 0, none⟩) 0 0) 0 [] rfl (empty_ownB w2) (.slice a1 D c1) d rfl (HU.out.next (Below.next HB2.out (HAL.out _ _))) (by rw [HML.out]; omega) (by simp) ?_; intro v3 w3 hown3 hg3; rw [HML.out, Nat.zero_add, List.nil_append] at hown3; obtain ⟨gd, cd, hvd, _, _, hcd⟩ := row_shapeC hown3 (by omega); subst hvd; have HO3 := hidD hown3; have HB3 : Hid (Below w2.heap.size w2 w3) := row_grown (empty_ownB w2) (HAL.out w2 _) hg3 (by simp); have HK3 := hidD (HK2.out.next HB3.out); clear hown3 hg3 HU HK2)
      | (go_at_call 55; refine (HXO.out (bkA d (D / 16 - 1)) (dbB (E z0)) _ _ _ (HBLA.out _ _ _ _ _ HO3.out) HK3.out).mono ?_; rintro e w4 ⟨ve, rfl, hoe, hb4⟩; obtain ⟨ge, ce, hve, _, _, _⟩ := row_shapeC hoe (by omega); subst hve; have HE4 : Hid (ByAt w4 (.slice (some ⟨ge, 0, none⟩) 16 ce) (toL (xoB (bkA d (D / 16 - 1)) (dbB (E z0))))) := row_by (by rw [toL_len]; exact hoe); have HO4 := hidD (own_take (row_below HO3.out hb4) (k := D - 16) (by omega)); have HB4 : Hid (Below w2.heap.size w2 w4) := HB3.out.trans (hb4.mono HB3.out.size); clear hoe hb4 HO3 HK3 HB3)
      | (at_builtin; refine wpList_append_by rfl _ _ rfl w2.heap.size (.slice (some ⟨gd, 0, none⟩) (D - 16) cd) (D - 16) ((d.map encB).take (D - 16)) rfl HO4.out (.slice (some ⟨ge, 0, none⟩) 16 ce) (toL (xoB (bkA d (D / 16 - 1)) (dbB (E z0)))) rfl HE4.out (by rw [toL_len]; omega) HB4.out.size ?_; intro v5 w5 hown5 hg5; rw [toL_len, HEM.out, show D - 16 + 16 = D by omega] at hown5; obtain ⟨g5, c5, hv5, _, _, _⟩ := row_shapeC hown5 (by omega); subst hv5; have HS5 : Hid (SlAt w5 (.slice (some ⟨g5, 0, none⟩) D c5) (mEnd d (dbB (E z0)))) := sl_of_own (base := w2.heap.size) (by rw [HEL.out]; exact hown5); have HB5 := hidD (row_grown HO4.out HB4.out hg5 HB4.out.size); clear hown5 hg5 HO4 HE4 HB4)
      | (go_at_call 25; refine (HCH.out (mEnd d (dbB (E z0))) _ _ _ (by rw [HEL.out]; exact hMb) (by rw [HEL.out]; exact hM16) (HB2.out.trans (HB5.out.mono HB2.out.size)) (HZ2.out.next HB5.out) HS5.out).mono ?_; rintro e w6 ⟨va, rfl, hoa, hb6⟩; rw [HEL.out] at hoa; obtain ⟨ga, ca, hva, _, _, hca⟩ := row_shapeC hoa (by omega); subst hva; have HA6 := hidD (fun c' => HCHA.out _ _ _ _ c' hoa); have HB6 : Hid (Below w.heap.size w w6) := Below.next (HB2.out.trans (HB5.out.mono HB2.out.size)) hb6; clear hoa hb6 HS5 HB5 HZ2)
      | (at_builtin; refine wpList_append_fresh rfl _ _ rfl rfl (.slice (some ⟨ga, D - 16, none⟩) 16 (ca - (D - 16))) (toL (chTo E z0 (mEnd d (dbB (E z0))) (D / 16))) rfl (HA6.out _) (by rw [toL_len]; omega) ?_; intro v7 w7 hsl hb7; have HS7 := hidD hsl; have HB7 := hidD hb7; clear hsl hb7))
    refine bodyPost_ret (v := .tuple #[v7, .int .i64 0]) (by simp [results, Try.results29, go_sem]) rfl ?_
    exact ⟨_, rfl, by rw [HMS.out]; exact HS7.out.by', Below.next HB6.out HB7.out⟩
end Go.Proofs.Ytgefampdfhbmbaa
