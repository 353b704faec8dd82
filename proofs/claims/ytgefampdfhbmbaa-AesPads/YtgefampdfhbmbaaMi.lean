/- Texts of one proof, one behind the other. -/
import Derived.Test.YtgefampdfhbmbaaAsf
import Derived.Test.YtgefampdfhbmbaaMh
import Derived.Laws.Slices
import Derived.Test.YtgefampdfhbmbaaMa
/- What the document's Chain and Unchain answer. -/
namespace Go.Proofs.Ytgefampdfhbmbaa
open Go.RowKit
set_option linter.unusedVariables false

theorem rows_succ (f : Nat → UInt8) {n q : Nat} (h : 16 * q + 16 ≤ n) : ((List.range n).map f).take (16 * (q + 1)) = ((List.range n).map f).take (16 * q) ++ toL (fun k => f (16 * q + k)) := by
  apply List.ext_getElem?
  intro i
  have hl : (((List.range n).map f).take (16 * q)).length = 16 * q := by simp; omega
  by_cases h1 : i < 16 * q
  · rw [List.getElem?_append_left (by rw [hl]; exact h1), List.getElem?_take, if_pos (by omega), List.getElem?_take, if_pos h1]
  · rw [List.getElem?_append_right (by rw [hl]; omega), hl]
    by_cases h2 : i < 16 * (q + 1)
    · unfold toL
      rw [List.getElem?_take, if_pos h2, List.getElem?_map, List.getElem?_range (by omega), List.getElem?_map, List.getElem?_range (by omega)]
      show some (f i) = some (f (16 * q + (i - 16 * q)))
      rw [show 16 * q + (i - 16 * q) = i by omega]
    · rw [List.getElem?_take, if_neg h2, List.getElem?_eq_none (by rw [toL_len]; omega)]
theorem ch_succ {E : (Nat → UInt8) → Nat → UInt8} {first : Nat → UInt8} {d : List UInt8} {q : Nat} (h : 16 * q + 16 ≤ d.length) : (chS E first d).take (16 * (q + 1)) = (chS E first d).take (16 * q) ++ toL (chTo E first d (q + 1)) := by
  unfold chS
  rw [rows_succ _ h]
  congr 1
  refine toL_congr fun k hk => ?_
  show chTo E first d ((16 * q + k) / 16 + 1) ((16 * q + k) % 16) = _
  rw [show (16 * q + k) / 16 = q by omega, show (16 * q + k) % 16 = k by omega]
theorem unch_succ {D : (Nat → UInt8) → Nat → UInt8} {first : Nat → UInt8} {d : List UInt8} {q : Nat} (h : 16 * q + 16 ≤ d.length) : (unchS D first d).take (16 * (q + 1)) = (unchS D first d).take (16 * q) ++ toL (xoB (D (bkA d q)) (ahA first d q)) := by
  unfold unchS
  rw [rows_succ _ h]
  congr 1
  refine toL_congr fun k hk => ?_
  show D (bkA d ((16 * q + k) / 16)) ((16 * q + k) % 16) ^^^ ahA first d ((16 * q + k) / 16) ((16 * q + k) % 16) = _
  rw [show (16 * q + k) / 16 = q by omega, show (16 * q + k) % 16 = k by omega]; rfl
theorem unch_len (D : (Nat → UInt8) → Nat → UInt8) (first : Nat → UInt8) (d : List UInt8) : (unchS D first d).length = d.length := by simp [unchS]
theorem piece_blk {d : List UInt8} {q : Nat} (h : 16 * q + 16 ≤ d.length) : (d.drop (16 * q)).take 16 = toL (bkA d q) := by
  apply List.ext_getElem?
  intro i
  unfold toL
  by_cases hi : i < 16
  · rw [List.getElem?_take, if_pos hi, List.getElem?_drop, List.getElem?_map, List.getElem?_range hi]
    show _ = some (d.getD (16 * q + i) 0)
    rw [List.getD_eq_getElem?_getD, List.getElem?_eq_getElem (by omega)]; rfl
  · rw [List.getElem?_take, if_neg hi, List.getElem?_eq_none (by simp; omega)]
theorem xor_toL (a b : Nat → UInt8) : xorL (toL a) (toL b) 16 = toL (xoB a b) := List.map_congr_left fun i hi => by
  have hi : i < 16 := by simpa using hi
  show blk (toL a) i ^^^ blk (toL b) i = _
  rw [blk_toL hi, blk_toL hi]; rfl
/-- A piece of sixteen bytes of a slice. -/
theorem by_piece {w : World} {g off cap q : Nat} {d : List UInt8} (h : ByAt w (.slice (some ⟨g, off, none⟩) d.length cap) d) (hq : 16 * q + 16 ≤ d.length) (c' : Nat) : ByAt w (.slice (some ⟨g, off + 16 * q, none⟩) 16 c') (toL (bkA d q)) := by
  rcases h with ⟨rfl, _⟩ | ⟨g', off', cap', he, hg, hc⟩
  · simp at hq
  · cases he
    refine .inr ⟨g, off + 16 * q, c', by rw [toL_len], hg, fun j hj => ?_⟩
    rw [toL_len] at hj
    rw [show off + 16 * q + j = off + (16 * q + j) by omega, hc (16 * q + j) (by omega)]
    show _ = some (encB (blk (toL (bkA d q)) j))
    rw [blk_toL hj]; rfl
theorem by_grown {w w' : World} {B n : Nat} {v : Value} {l : List UInt8} {row : Option Nat} (h : w.ownsRow B 5 1 v l.length (l.map encB)) (hg : w.grownBy w' row) (hr : v.ownBlock ≠ row) : ByAt w' v l := row_by (own_grown h hg (.inl hr))
theorem enc_blk {n : Nat} {key c : Nat → UInt8} : toL (deS (n + 6) (rkS n key) (blk (toL c))) = toL (deS (n + 6) (rkS n key) c) := toL_congr (xo_same (de_same (blk_same c) (n + 6)) (Same16.rfl' _))
set_option maxRecDepth 100000 in
theorem refChain_nil (v u : Value) (w : World) : Calls Try.prog 25 #[.pointer none, v, u] w fun e w' => e = .returned (.tuple #[.slice none 0 0, .int .i64 2]) ∧ w' = w := by
  go_enter Try.func25, Try.ntmps25
  go_wp2_with fail
  refine bodyPost_ret (v := .tuple #[.slice none 0 0, .int .i64 2]) (by simp [results, Try.results25, go_sem]) rfl ?_
  exact ⟨rfl, rfl⟩
set_option maxRecDepth 100000 in
theorem refChain_no (l d : List UInt8) (hl : l.length ≠ 16 ∨ d.length % 16 ≠ 0) (b : Nat) (v u : Value) (w : World) (hv : ByAt w v l) (hu : ByAt w u d) : Calls Try.prog 25 #[.pointer (some ⟨b, 0, none⟩), v, u] w fun e w' => e = .returned (.tuple #[.slice none 0 0, .int .i64 91]) ∧ w' = w := by
  obtain ⟨a1, c1, rfl, hsh1⟩ := hv.shape
  obtain ⟨a2, c2, rfl, hsh2⟩ := hu.shape
  clear hsh1 hsh2 hv hu
  by_cases h16 : l.length = 16
  · have e1 : ((l.length : Int) != 16) = false := by
      have : ((l.length : Int) = 16) := by omega
      simpa using this
    have e2 : ((d.length : Int) % 16 != 0) = true := by
      have : ¬ ((d.length : Int) % 16 = 0) := by omega
      simpa using this
    clear hl h16
    generalize l.length = LL at *
    generalize d.length = DD at *
    go_enter Try.func25, Try.ntmps25
    go_wp2_with fail
    refine bodyPost_ret (v := .tuple #[.slice none 0 0, .int .i64 91]) (by simp [results, Try.results25, go_sem]) rfl ?_
    exact ⟨rfl, rfl⟩
  · have e1 : ((l.length : Int) != 16) = true := by
      have : ¬ ((l.length : Int) = 16) := by omega
      simpa using this
    clear hl h16
    generalize l.length = LL at *
    generalize d.length = DD at *
    go_enter Try.func25, Try.ntmps25
    go_wp2_with fail
    refine bodyPost_ret (v := .tuple #[.slice none 0 0, .int .i64 91]) (by simp [results, Try.results25, go_sem]) rfl ?_
    exact ⟨rfl, rfl⟩
set_option maxRecDepth 100000 in
theorem refUnchain_nil (v u : Value) (w : World) : Calls Try.prog 27 #[.pointer none, v, u] w fun e w' => e = .returned (.tuple #[.slice none 0 0, .int .i64 2]) ∧ w' = w := by
  go_enter Try.func27, Try.ntmps27
  go_wp2_with fail
  refine bodyPost_ret (v := .tuple #[.slice none 0 0, .int .i64 2]) (by simp [results, Try.results27, go_sem]) rfl ?_
  exact ⟨rfl, rfl⟩
set_option maxRecDepth 100000 in
theorem refUnchain_no (l d : List UInt8) (hl : l.length ≠ 16 ∨ d.length % 16 ≠ 0) (b : Nat) (v u : Value) (w : World) (hv : ByAt w v l) (hu : ByAt w u d) : Calls Try.prog 27 #[.pointer (some ⟨b, 0, none⟩), v, u] w fun e w' => e = .returned (.tuple #[.slice none 0 0, .int .i64 91]) ∧ w' = w := by
  obtain ⟨a1, c1, rfl, hsh1⟩ := hv.shape
  obtain ⟨a2, c2, rfl, hsh2⟩ := hu.shape
  clear hsh1 hsh2 hv hu
  by_cases h16 : l.length = 16
  · have e1 : ((l.length : Int) != 16) = false := by
      have : ((l.length : Int) = 16) := by omega
      simpa using this
    have e2 : ((d.length : Int) % 16 != 0) = true := by
      have : ¬ ((d.length : Int) % 16 = 0) := by omega
      simpa using this
    clear hl h16
    generalize l.length = LL at *
    generalize d.length = DD at *
    go_enter Try.func27, Try.ntmps27
    go_wp2_with fail
    refine bodyPost_ret (v := .tuple #[.slice none 0 0, .int .i64 91]) (by simp [results, Try.results27, go_sem]) rfl ?_
    exact ⟨rfl, rfl⟩
  · have e1 : ((l.length : Int) != 16) = true := by
      have : ¬ ((l.length : Int) = 16) := by omega
      simpa using this
    clear hl h16
    generalize l.length = LL at *
    generalize d.length = DD at *
    go_enter Try.func27, Try.ntmps27
    go_wp2_with fail
    refine bodyPost_ret (v := .tuple #[.slice none 0 0, .int .i64 91]) (by simp [results, Try.results27, go_sem]) rfl ?_
    exact ⟨rfl, rfl⟩
set_option maxRecDepth 100000 in
set_option maxHeartbeats 1600000 in
theorem refChain_any (l d : List UInt8) (hl : l.length = 16) (hd : d.length ≤ 140737488355200) (hd16 : d.length % 16 = 0) (n : Nat) (hn : n ≤ 8) (key : Nat → UInt8) (b : Nat) (v u : Value) (w : World) (h : RcAt w b n key) (hv : ByAt w v l) (hu : SlAt w u d) : Calls Try.prog 25 #[.pointer (some ⟨b, 0, none⟩), v, u] w fun e w' => ∃ vo, e = .returned (.tuple #[vo, .int .i64 0]) ∧ w'.ownsRow w.heap.size 5 1 vo d.length ((chS (enS (n + 6) (rkS n key)) (blk l) d).map encB) ∧ Below w.heap.size w w' := by
  have HEN : Hid (∀ c wA vn, Below w.heap.size w wA → ByAt wA vn (toL c) → Calls Try.prog 17 #[.pointer (some ⟨b, 0, none⟩), vn] wA fun e w' => ∃ vo, e = .returned (.tuple #[vo, .int .i64 0]) ∧ w'.ownsRow wA.heap.size 5 1 vo 16 ((toL (enS (n + 6) (rkS n key) c)).map encB) ∧ Below wA.heap.size wA w') := fun c wA vn hb hvn => by
    have := refEncrypt_any (toL c) (toL_len c) n hn key b vn wA (h.next hb) hvn
    rw [enc_row] at this
    exact this
  have HXO : Hid (∀ x y wA vx vy, ByAt wA vx (toL x) → ByAt wA vy (toL y) → Calls Try.prog 55 #[vx, vy] wA fun e w' => ∃ vo, e = .returned vo ∧ w'.ownsRow wA.heap.size 5 1 vo 16 ((toL (xoB x y)).map encB) ∧ Below wA.heap.size wA w') := fun x y wA vx vy hx hy => by
    have := refXor_any (toL x) (toL y) (by rw [toL_len, toL_len]) (by rw [toL_len]; omega) vx vy wA hx hy
    rw [toL_len, xor_toL] at this
    exact this
  obtain ⟨a2, c2, rfl, hcap, hcm⟩ := hu.shape
  have HUB : Hid (∀ wA, Below w.heap.size w wA → ByAt wA (.slice a2 d.length c2) d) := fun wA hb => hu.by'.next hb
  have HV := hidD hv
  have HTL : Hid (toL (blk l) = l) := toL_blk hl
  obtain ⟨a1, c1, rfl, hsh1⟩ := hv.shape
  have HA2 : Hid (0 < d.length → ∃ g off, a2 = some ⟨g, off, none⟩) := fun h0 => by
    obtain ⟨a3, c3, he, hsh⟩ := hu.by'.shape
    cases he
    obtain ⟨g, off, h1, _⟩ := hsh 0 h0
    exact ⟨g, off, h1⟩
  have e1 : ((l.length : Int) != 16) = false := by
    have : ((l.length : Int) = 16) := by omega
    simpa using this
  have e2 : ((d.length : Int) % 16 != 0) = false := by
    have : ((d.length : Int) % 16 = 0) := by omega
    simpa using this
  clear hsh1 hv hu h hl
  generalize hLL : l.length = LL at *
  clear hLL hn
  generalize enS (n + 6) (rkS n key) = E at *
  have HAL : Hid (∀ (w' : World) o, Below w'.heap.size w' (w'.alloc o)) := fun w' o => (Below.refl _ _).alloc (Nat.le_refl _) o
  generalize hfi : blk l = first at *
  have HFI := hidD hfi
  clear hfi
  have HCS := hidD (fun q h => ch_succ (E := E) (first := first) (d := d) (q := q) h)
  have HCL : Hid (∀ k, k ≤ d.length → ((chS E first d).take k).length = k) := fun k hk => by rw [List.length_take, ch_len]; omega
  have HCA : Hid ((chS E first d).take d.length = chS E first d) := List.take_of_length_le (by rw [ch_len]; exact Nat.le_refl _)
  have HBP : Hid (∀ wA g off cap c' q, ByAt wA (.slice (some ⟨g, off, none⟩) d.length cap) d → 16 * q + 16 ≤ d.length → ByAt wA (.slice (some ⟨g, off + 16 * q, none⟩) 16 c') (toL (bkA d q))) := fun wA g off cap c' q h hq => by_piece h hq c'
  generalize chS E first d = CT at *
  generalize hD : d.length = D at *
  have HDL := hidD hD
  have HD16 := hidD hd16
  clear hD
  go_enter Try.func25, Try.ntmps25
  go_wp2_with fail
  go_loopw [8, 9, 10] (fun o la i wr => ∃ q : Nat, 16 * q ≤ D ∧ i = .int .i64 ((16 * q : Nat) : Int) ∧ wr.ownsRow w.heap.size 5 1 o (16 * q) ((CT.take (16 * q)).map encB) ∧ ByAt wr la (toL (chTo E first d q)) ∧ Below w.heap.size w wr) (fun _ _ i _ => D - (intOf i).toNat)
  case atStart => exact ⟨0, by omega, rfl, World.ownsRow_nil _ _ _ _, by show ByAt _ _ (toL first); rw [HTL.out]; exact HV.out, Below.refl _ _⟩
  case round =>
    obtain ⟨q, hq, rfl, hout, hla, hbel⟩ := hrel
    have HOUT := hidD hout
    have HLA := hidD hla
    have HBL := hidD hbel
    have HWS := hidD hbel.size
    by_cases hlt : 16 * q < D
    · have hlti : ((16 * q : Nat) : Int) < (D : Int) := by omega
      have hq16 : 16 * q + 16 ≤ D := by omega
      obtain ⟨gd, od, rfl⟩ := HA2.out (by omega)
      have HPC : Hid (∀ wA c', Below w.heap.size w wA → ByAt wA (.slice (some ⟨gd, od + 16 * q, none⟩) 16 c') (toL (bkA d q))) := fun wA c' hb => HBP.out wA gd od c2 c' q (HUB.out wA hb) hq16
      have HTK := hidD (HCS.out q hq16)
      have hI16 : ((16 * q : Nat) : Int) + 16 = ((16 * q + 16 : Nat) : Int) := by omega
      have hc1 : ((16 * q + 16 : Nat) : Int) ≤ (c2 : Int) := by omega
      have hc0 : ((16 * q : Nat) : Int) ≤ ((16 * q + 16 : Nat) : Int) := by omega
      have hcn : ¬ c2 = 16 * q := by omega
      have hb1 : 16 * q ≤ 140737488355200 := by omega
      have hb2 : 16 * q + 16 ≤ 140737488355200 := by omega
      have HE : Hid (16 * (q + 1) = 16 * q + 16) := by show _ = _; omega
      have hdn : 16 * q + 16 - 16 * q = 16 := by omega
      clear hout hla hbel
      have HCN : Hid (chTo E first d (q + 1) = E (xoB (bkA d q) (chTo E first d q))) := rfl
      rw [HCN.out] at HTK
      generalize hT0 : chTo E first d q = T0 at *
      have HT0 := hidD hT0
      clear hT0
      generalize hI2 : 16 * q + 16 = I2 at *
      have HI2 := hidD hI2
      generalize hI : 16 * q = I at *
      have HI := hidD hI
      clear hI hI2
      go_wp2_with (first
        | (go_at_call 55; refine (HXO.out (bkA d q) T0 _ _ _ (HPC.out _ _ HBL.out) HLA.out).mono ?_; rintro e w1 ⟨vx, rfl, hox, hb1⟩; obtain ⟨gx, cx, hvx, _, _, _⟩ := row_shapeC hox (by omega); subst hvx; have HB1 : Hid (Below w.heap.size w w1) := Below.next HBL.out hb1; have HX1 : Hid (ByAt w1 (.slice (some ⟨gx, 0, none⟩) 16 cx) (toL (xoB (bkA d q) T0))) := row_by (by rw [toL_len]; exact hox); have HO1 := hidD (row_below HOUT.out hb1); clear hox hb1)
        | (go_at_call 17; refine (HEN.out _ _ _ HB1.out HX1.out).mono ?_; rintro e w2 ⟨vk, rfl, hok, hb2⟩; obtain ⟨gk, ck, hvk, hgk, _, _⟩ := row_shapeC hok (by omega); subst hvk; have HB2 : Hid (Below w.heap.size w w2) := Below.next HB1.out hb2; have HO2 := hidD (row_below HO1.out hb2); have HNE : Hid (some gk ≠ u8.ownBlock) := own_lt HO1.out hgk; have HK2 : Hid (w2.ownsRow w1.heap.size 5 1 (.slice (some ⟨gk, 0, none⟩) 16 ck) (toL (E (xoB (bkA d q) T0))).length ((toL (E (xoB (bkA d q) T0))).map encB)) := by { show World.ownsRow _ _ _ _ _ _ _; rw [toL_len]; exact hok }; clear hok hb2 hgk)
        | (at_builtin; refine wpList_append_by rfl _ _ rfl w.heap.size u8 I ((CT.take I).map encB) rfl HO2.out (.slice (some ⟨gk, 0, none⟩) 16 ck) (toL (E (xoB (bkA d q) T0))) rfl (row_by HK2.out) (by rw [toL_len]; omega) HB2.out.size ?_; intro v4 w4 hown4 hg4; rw [toL_len] at hown4; have HO4 := hidD hown4; have HB4 := hidD (row_grown HO2.out HB2.out hg4 HB2.out.size); have HL4 := hidD (by_grown (n := 0) HK2.out hg4 HNE.out); clear hown4 hg4))
      go_roundw
      case rel => exact ⟨q + 1, by have := HE.out; omega, by have := HI.out; go_num, by rw [HTK.out, List.map_append, HE.out, ← HI2.out]; exact HO4.out, by rw [HCN.out]; exact HL4.out, HB4.out⟩
      case measure => simp [intOf]; omega
    · have hqD : 16 * q = D := by omega
      have HFO : Hid (wr.ownsRow w.heap.size 5 1 u8 D (CT.map encB)) := by
        have h1 := hout
        rw [hqD, HCA.out] at h1
        exact h1
      have hend : ¬ ((16 * q : Nat) : Int) < (D : Int) := by omega
      clear hout hla hbel hqD HOUT
      generalize 16 * q = I at *
      go_wp2_with fail
      refine bodyPost_ret (v := .tuple #[u8, .int .i64 0]) (by simp [results, Try.results25, go_sem]) rfl ?_
      exact ⟨_, rfl, HFO.out, HBL.out⟩
set_option maxRecDepth 100000 in
set_option maxHeartbeats 1600000 in
theorem refUnchain_any (l d : List UInt8) (hl : l.length = 16) (hd : d.length ≤ 140737488355200) (hd16 : d.length % 16 = 0) (n : Nat) (hn : n ≤ 8) (key : Nat → UInt8) (b : Nat) (v u : Value) (w : World) (h : RcAt w b n key) (hv : ByAt w v l) (hu : SlAt w u d) : Calls Try.prog 27 #[.pointer (some ⟨b, 0, none⟩), v, u] w fun e w' => ∃ vo, e = .returned (.tuple #[vo, .int .i64 0]) ∧ w'.ownsRow w.heap.size 5 1 vo d.length ((unchS (deS (n + 6) (rkS n key)) (blk l) d).map encB) ∧ Below w.heap.size w w' := by
  have HEN : Hid (∀ c wA vn, Below w.heap.size w wA → ByAt wA vn (toL c) → Calls Try.prog 19 #[.pointer (some ⟨b, 0, none⟩), vn] wA fun e w' => ∃ vo, e = .returned (.tuple #[vo, .int .i64 0]) ∧ w'.ownsRow wA.heap.size 5 1 vo 16 ((toL (deS (n + 6) (rkS n key) c)).map encB) ∧ Below wA.heap.size wA w') := fun c wA vn hb hvn => by
    have := refDecrypt_any (toL c) (toL_len c) n hn key b vn wA (h.next hb) hvn
    rw [enc_blk] at this
    exact this
  have HXO : Hid (∀ x y wA vx vy, ByAt wA vx (toL x) → ByAt wA vy (toL y) → Calls Try.prog 55 #[vx, vy] wA fun e w' => ∃ vo, e = .returned vo ∧ w'.ownsRow wA.heap.size 5 1 vo 16 ((toL (xoB x y)).map encB) ∧ Below wA.heap.size wA w') := fun x y wA vx vy hx hy => by
    have := refXor_any (toL x) (toL y) (by rw [toL_len, toL_len]) (by rw [toL_len]; omega) vx vy wA hx hy
    rw [toL_len, xor_toL] at this
    exact this
  obtain ⟨a2, c2, rfl, hcap, hcm⟩ := hu.shape
  have HUB : Hid (∀ wA, Below w.heap.size w wA → ByAt wA (.slice a2 d.length c2) d) := fun wA hb => hu.by'.next hb
  have HV := hidD hv
  have HTL : Hid (toL (blk l) = l) := toL_blk hl
  obtain ⟨a1, c1, rfl, hsh1⟩ := hv.shape
  have HA2 : Hid (0 < d.length → ∃ g off, a2 = some ⟨g, off, none⟩) := fun h0 => by
    obtain ⟨a3, c3, he, hsh⟩ := hu.by'.shape
    cases he
    obtain ⟨g, off, h1, _⟩ := hsh 0 h0
    exact ⟨g, off, h1⟩
  have e1 : ((l.length : Int) != 16) = false := by
    have : ((l.length : Int) = 16) := by omega
    simpa using this
  have e2 : ((d.length : Int) % 16 != 0) = false := by
    have : ((d.length : Int) % 16 = 0) := by omega
    simpa using this
  clear hsh1 hv hu h hl
  generalize hLL : l.length = LL at *
  clear hLL hn
  generalize deS (n + 6) (rkS n key) = E at *
  have HAL : Hid (∀ (w' : World) o, Below w'.heap.size w' (w'.alloc o)) := fun w' o => (Below.refl _ _).alloc (Nat.le_refl _) o
  generalize hfi : blk l = first at *
  have HFI := hidD hfi
  clear hfi
  have HCS := hidD (fun q h => unch_succ (D := E) (first := first) (d := d) (q := q) h)
  have HCL : Hid (∀ k, k ≤ d.length → ((unchS E first d).take k).length = k) := fun k hk => by rw [List.length_take, unch_len]; omega
  have HCA : Hid ((unchS E first d).take d.length = unchS E first d) := List.take_of_length_le (by rw [unch_len]; exact Nat.le_refl _)
  have HBP : Hid (∀ wA g off cap c' q, ByAt wA (.slice (some ⟨g, off, none⟩) d.length cap) d → 16 * q + 16 ≤ d.length → ByAt wA (.slice (some ⟨g, off + 16 * q, none⟩) 16 c') (toL (bkA d q))) := fun wA g off cap c' q h hq => by_piece h hq c'
  generalize unchS E first d = CT at *
  generalize hD : d.length = D at *
  have HDL := hidD hD
  have HD16 := hidD hd16
  clear hD
  go_enter Try.func27, Try.ntmps27
  go_wp2_with fail
  go_loopw [8, 9, 10] (fun o la i wr => ∃ q : Nat, 16 * q ≤ D ∧ i = .int .i64 ((16 * q : Nat) : Int) ∧ wr.ownsRow w.heap.size 5 1 o (16 * q) ((CT.take (16 * q)).map encB) ∧ ByAt wr la (toL (ahA first d q)) ∧ Below w.heap.size w wr) (fun _ _ i _ => D - (intOf i).toNat)
  case atStart => exact ⟨0, by omega, rfl, World.ownsRow_nil _ _ _ _, by show ByAt _ _ (toL first); rw [HTL.out]; exact HV.out, Below.refl _ _⟩
  case round =>
    obtain ⟨q, hq, rfl, hout, hla, hbel⟩ := hrel
    have HOUT := hidD hout
    have HLA := hidD hla
    have HBL := hidD hbel
    have HWS := hidD hbel.size
    by_cases hlt : 16 * q < D
    · have hlti : ((16 * q : Nat) : Int) < (D : Int) := by omega
      have hq16 : 16 * q + 16 ≤ D := by omega
      obtain ⟨gd, od, rfl⟩ := HA2.out (by omega)
      have HPC : Hid (∀ wA c', Below w.heap.size w wA → ByAt wA (.slice (some ⟨gd, od + 16 * q, none⟩) 16 c') (toL (bkA d q))) := fun wA c' hb => HBP.out wA gd od c2 c' q (HUB.out wA hb) hq16
      have HTK := hidD (HCS.out q hq16)
      have hI16 : ((16 * q : Nat) : Int) + 16 = ((16 * q + 16 : Nat) : Int) := by omega
      have hc1 : ((16 * q + 16 : Nat) : Int) ≤ (c2 : Int) := by omega
      have hc0 : ((16 * q : Nat) : Int) ≤ ((16 * q + 16 : Nat) : Int) := by omega
      have hcn : ¬ c2 = 16 * q := by omega
      have hb1 : 16 * q ≤ 140737488355200 := by omega
      have hb2 : 16 * q + 16 ≤ 140737488355200 := by omega
      have HE : Hid (16 * (q + 1) = 16 * q + 16) := by show _ = _; omega
      have hdn : 16 * q + 16 - 16 * q = 16 := by omega
      clear hout hla hbel
      have HCN : Hid (ahA first d (q + 1) = bkA d q) := rfl
      generalize hT0 : ahA first d q = T0 at *
      have HT0 := hidD hT0
      clear hT0
      generalize hI2 : 16 * q + 16 = I2 at *
      have HI2 := hidD hI2
      generalize hI : 16 * q = I at *
      have HI := hidD hI
      clear hI hI2
      go_wp2_with (first
        | (go_at_call 19; refine (HEN.out (bkA d q) _ _ HBL.out (HPC.out _ _ HBL.out)).mono ?_; rintro e w1 ⟨vx, rfl, hox, hb1⟩; obtain ⟨gx, cx, hvx, _, _, _⟩ := row_shapeC hox (by omega); subst hvx; have HB1 : Hid (Below w.heap.size w w1) := Below.next HBL.out hb1; have HX1 : Hid (ByAt w1 (.slice (some ⟨gx, 0, none⟩) 16 cx) (toL (E (bkA d q)))) := row_by (by rw [toL_len]; exact hox); have HO1 := hidD (row_below HOUT.out hb1); have HL1 := hidD (HLA.out.next hb1); clear hox hb1)
        | (go_at_call 55; refine (HXO.out (E (bkA d q)) T0 _ _ _ HX1.out HL1.out).mono ?_; rintro e w2 ⟨vk, rfl, hok, hb2⟩; obtain ⟨gk, ck, hvk, hgk, _, _⟩ := row_shapeC hok (by omega); subst hvk; have HB2 : Hid (Below w.heap.size w w2) := Below.next HB1.out hb2; have HO2 := hidD (row_below HO1.out hb2); have HK2 : Hid (w2.ownsRow w1.heap.size 5 1 (.slice (some ⟨gk, 0, none⟩) 16 ck) (toL (xoB (E (bkA d q)) T0)).length ((toL (xoB (E (bkA d q)) T0)).map encB)) := by { show World.ownsRow _ _ _ _ _ _ _; rw [toL_len]; exact hok }; clear hok hb2 hgk)
        | (at_builtin; refine wpList_append_by rfl _ _ rfl w.heap.size u8 I ((CT.take I).map encB) rfl HO2.out (.slice (some ⟨gk, 0, none⟩) 16 ck) (toL (xoB (E (bkA d q)) T0)) rfl (row_by HK2.out) (by rw [toL_len]; omega) HB2.out.size ?_; intro v4 w4 hown4 hg4; rw [toL_len] at hown4; have HO4 := hidD hown4; have HB4 := hidD (row_grown HO2.out HB2.out hg4 HB2.out.size); clear hown4 hg4))
      go_roundw
      case rel => exact ⟨q + 1, by have := HE.out; omega, by have := HI.out; go_num, by rw [HTK.out, List.map_append, HE.out, ← HI2.out]; exact HO4.out, by rw [HCN.out]; exact HPC.out _ _ HB4.out, HB4.out⟩
      case measure => simp [intOf]; omega
    · have hqD : 16 * q = D := by omega
      have HFO : Hid (wr.ownsRow w.heap.size 5 1 u8 D (CT.map encB)) := by
        have h1 := hout
        rw [hqD, HCA.out] at h1
        exact h1
      have hend : ¬ ((16 * q : Nat) : Int) < (D : Int) := by omega
      clear hout hla hbel hqD HOUT
      generalize 16 * q = I at *
      go_wp2_with fail
      refine bodyPost_ret (v := .tuple #[u8, .int .i64 0]) (by simp [results, Try.results27, go_sem]) rfl ?_
      exact ⟨_, rfl, HFO.out, HBL.out⟩
end Go.Proofs.Ytgefampdfhbmbaa
/- What the statements' own and same answer. -/
namespace Go.Proofs.Ytgefampdfhbmbaa
open Go.RowKit
set_option linter.unusedVariables false

set_option maxRecDepth 100000 in
theorem own_any (l : List UInt8) (hl : l.length ≤ 140737488355200) (v : Value) (w : World) (hv : ByAt w v l) : Calls Try.prog 15 #[v] w fun e w' => ∃ vo, e = .returned vo ∧ w'.ownsRow w.heap.size 5 1 vo l.length (l.map encB) ∧ Below w.heap.size w w' := by
  have HV := hidD hv
  obtain ⟨a', cap, rfl, hsh⟩ := hv.shape
  clear hsh hv
  have HAL : Hid (∀ (w' : World) o, Below w'.heap.size w' (w'.alloc o)) := fun w' o => (Below.refl _ _).alloc (Nat.le_refl _) o
  generalize hLL : l.length = LL at *
  have HLL := hidD hLL
  clear hLL
  go_enter Try.func15, Try.ntmps15
  go_wp2_with (at_builtin; refine wpList_append_by rfl _ _ rfl w.heap.size (.slice (some ⟨w.heap.size, 0, none⟩) 0 0) 0 [] rfl (empty_ownB w) (.slice a' LL cap) l rfl (HV.out.next (HAL.out _ _)) (by rw [HLL.out]; omega) (by simp) ?_; intro v8 w8 hown8 hg8; rw [HLL.out, Nat.zero_add, List.nil_append] at hown8; have HO8 := hidD hown8; have HB8 := hidD (row_grown (empty_ownB w) (HAL.out _ _) hg8 (by simp)); clear hown8 hg8)
  go_ret
  exact ⟨_, rfl, HO8.out, HB8.out⟩
theorem ba_list (x : List UInt8) : (⟨x.toArray⟩ : ByteArray).toList = x := by
  rw [ByteArray.toList_eq]
set_option maxRecDepth 100000 in
theorem same_any (x y : List UInt8) (u v : Value) (w : World) (hu : ByAt w u x) (hv : ByAt w v y) : Calls Try.prog 13 #[u, v] w fun e w' => e = .returned (.bool (decide (x = y))) ∧ w' = w := by
  have h1 := conv_by hu
  have h2 := conv_by hv
  obtain ⟨a1, c1, rfl, _⟩ := hu.shape
  obtain ⟨a2, c2, rfl, _⟩ := hv.shape
  have h3 : ((⟨x.toArray⟩ : ByteArray).toList == (⟨y.toArray⟩ : ByteArray).toList) = decide (x = y) := by
    rw [ba_list, ba_list]
    by_cases h : x = y
    · subst h; simp
    · rw [decide_eq_false h]; simpa using h
  have H3 := hidD h3
  clear h3
  generalize (⟨x.toArray⟩ : ByteArray) = X at *
  generalize (⟨y.toArray⟩ : ByteArray) = Y at *
  generalize x.length = n at *
  generalize y.length = m at *
  go_enter Try.func13, Try.ntmps13
  go_wp2_with fail
  go_ret
  refine ⟨?_, rfl⟩
  show Ending.returned (Value.bool (X.toList == Y.toList)) = _
  rw [H3.out]
end Go.Proofs.Ytgefampdfhbmbaa
