/- What the document's Encode answers. -/
import Derived.Test.YtdpkeffkpecmjaaGi
import Derived.Test.YtdpkeffkpecmjaaRxe
import Derived.Deep.RegionWith
import Derived.Deep.CutRange
namespace Go.Proofs.Ytdpkeffkpecmjaa
open Go.RowKit
set_option linter.unusedVariables false

theorem made_zeros (n : Nat) : (madeCells (Value.cells (.int .u8 0)) (n * 1)).toList = (List.replicate n (0 : UInt8)).map encB := by
  rw [Nat.mul_one]
  apply List.ext_getElem
  · simp [madeCells]
  · intro i h1 h2
    simp [madeCells, Value.cells, encB, Nat.mod_one]
theorem upon_of {P : Program} {o : Oper} {a : Act} {K : Act → World → Prop} {Q : Exit → Act → World → Prop} {r r' : Result Next} (h : r = r') (k : Oper.upon P o a K Q r') : Oper.upon P o a K Q r := h ▸ k
/-- An append of bytes, run. -/
theorem run_app {W : World} {base : Nat} {v : Value} {n : Nat} {xs : List Value} (hown : W.ownsRow base 5 1 v n xs) {u : Value} {bs : List UInt8} (hb : SlAt W u bs) (h0 : 0 < bs.length) (hl : n + bs.length ≤ 65536) (hbase : base ≤ W.heap.size) (ty : TypeId) : ∃ v' w', (Builtin.append_ #[22, 22] ty #[v, u]).run Try.prog W = .ok v' w' ∧ w'.ownsRow base 5 1 v' (n + bs.length) (xs ++ bs.map encB) ∧ W.grownBy w' v.ownBlock := by
  obtain ⟨i0, hi, hz0, hz1, hz2⟩ := info_parts Try.info5
  rcases hb.by' with ⟨rfl, _⟩ | ⟨g, off, cap, rfl, hg, hc⟩
  · simp at h0
  · obtain ⟨v', w', h1, h2, h3, _⟩ := run_append_own (P := Try.prog) (w := W) base 22 ty 5 i0 (.int .u8 0) 1 1 Try.underlying22 hi hz0 hz1 hz2 rfl (by decide) v n xs hown ⟨g, off, none⟩ bs.length cap (bs.map encB) (by simp) (fun j u hu => by
      rw [List.getElem?_map] at hu
      cases hj : bs[j]? with
      | none => rw [hj] at hu; cases hu
      | some y =>
        rw [hj] at hu
        have hlt := (List.getElem?_eq_some_iff.1 hj).1
        rw [Go.WideShapes.add_plain, hc j hlt, List.getD_eq_getElem?_getD, hj]
        exact hu) (bytes_oneCell bs) (by unfold maxLen; omega) (by omega) hbase
    exact ⟨v', w', h1, h2, h3⟩
set_option maxRecDepth 100000 in
theorem rkEnc_nil (v : Value) (w : World) : Calls Try.prog 13 #[.pointer none, v] w fun e w' => e = .returned (.tuple #[.slice none 0 0, .int .i64 2]) ∧ Below w.heap.size w w' := by
  have HW : Hid (Below w.heap.size w w) := Below.refl _ _
  go_enter Try.func13, Try.ntmps13
  go_wp2_with fail
  refine bodyPost_ret (v := .tuple #[.slice none 0 0, .int .i64 2]) (by simp [results, Try.results13, go_sem]) rfl ?_
  exact ⟨rfl, HW.out⟩
set_option maxRecDepth 100000 in
theorem rkEnc_none {c : Nat} (v : Value) (w : World) (hv : SlAt w v []) : Calls Try.prog 13 #[.pointer (some ⟨c, 0, none⟩), v] w fun e w' => e = .returned (.tuple #[.slice none 0 0, .int .i64 1]) ∧ Below w.heap.size w w' := by
  have HW : Hid (Below w.heap.size w w) := Below.refl _ _
  obtain ⟨⟨a, k, rfl, _, _⟩, _⟩ := hv
  simp only [List.length_nil]
  go_enter Try.func13, Try.ntmps13
  go_wp2_with fail
  refine bodyPost_ret (v := .tuple #[.slice none 0 0, .int .i64 1]) (by simp [results, Try.results13, go_sem]) rfl ?_
  exact ⟨rfl, HW.out⟩
set_option maxRecDepth 100000 in
theorem rkEnc_big {c p f : Nat} (hp : p ≤ 254) (data : List UInt8) (hdl : data.length ≤ 281474976710656) (h : 255 < data.length + p) (v : Value) (w : World) (hc : RkAt w c p f) (hv : SlAt w v data) : Calls Try.prog 13 #[.pointer (some ⟨c, 0, none⟩), v] w fun e w' => e = .returned (.tuple #[.slice none 0 0, .int .i64 3]) ∧ Below w.heap.size w w' := by
  have HW : Hid (Below w.heap.size w w) := Below.refl _ _
  obtain ⟨⟨a, k, rfl, _, _⟩, _⟩ := hv
  have f0 := hc.c0
  have hn0 : ((data.length : Int) == 0) = false := beq_eq_false_iff_ne.2 (by omega)
  have hni : (255 : Int) < (data.length : Int) + p := by omega
  clear hc
  go_enter Try.func13, Try.ntmps13
  go_wp2_with fail
  refine bodyPost_ret (v := .tuple #[.slice none 0 0, .int .i64 3]) (by simp [results, Try.results13, go_sem]) rfl ?_
  exact ⟨rfl, HW.out⟩
/-- What is left, filled up with zeros. -/
def padR (R : List UInt8) (k : Nat) : List UInt8 := R ++ List.replicate (k - R.length) 0
theorem padR_first (R : List UInt8) : padR R R.length = R := by simp [padR]
theorem padR_next (R : List UInt8) (k : Nat) (h : R.length ≤ k) : padR R (k + 1) = padR R k ++ [0] := by
  unfold padR
  rw [show k + 1 - R.length = (k - R.length) + 1 by omega, List.replicate_succ', List.append_assoc]
theorem padR_length (R : List UInt8) (k : Nat) (h : R.length ≤ k) : (padR R k).length = k := by simp [padR]; omega
theorem cf_pad (R : List UInt8) (k i : Nat) : cf (padR R k) i = cf R i := by
  unfold padR cf
  rw [List.getD_eq_getElem?_getD, List.getD_eq_getElem?_getD]
  by_cases h : i < R.length
  · rw [List.getElem?_append_left h]
  · rw [List.getElem?_append_right (by omega), List.getElem?_replicate, List.getElem?_eq_none (l := R) (by omega)]
    split <;> rfl
theorem enc_is (f p : Nat) (data : List UInt8) : encS f p data = data ++ (padR (encR f p data) p).reverse := by
  have hR := encR_len f p data
  have hl := padR_length (encR f p data) p hR
  refine cf_ext (by rw [encS_length, List.length_append, List.length_reverse, hl]) fun i hi => ?_
  rw [encS_length] at hi
  unfold encS encTo
  rw [cf_map, if_pos hi]
  by_cases h : i < data.length
  · rw [if_pos h]
    unfold cf
    rw [List.getD_eq_getElem?_getD, List.getD_eq_getElem?_getD, List.getElem?_append_left h]
  · rw [if_neg h, if_pos (by omega)]
    have e1 : cf (data ++ (padR (encR f p data) p).reverse) i = cf (padR (encR f p data) p).reverse (i - data.length) := by
      unfold cf
      rw [List.getD_eq_getElem?_getD, List.getD_eq_getElem?_getD, List.getElem?_append_right (by omega)]
    rw [e1, cf_reverse _ _ (by rw [hl]; omega), hl, cf_pad]
    congr 1
    omega
/-- Divided by the generator, in new memory. -/
theorem refLeft {b : Nat} (f p : Nat) (hp : p ≤ 254) (data : List UInt8) (h5 : data.length + p ≤ 255) (vp vq : Value) (w : World) (hf : RfAt w b 29 2) (hv : SlAt w vp (data ++ List.replicate p 0).reverse) (hq : SlAt w vq (genTo f p)) :
    Calls Try.prog 38 #[.pointer (some ⟨b, 0, none⟩), vp, vq] w fun e w' => ∃ v1 v2 B, e = .returned (.tuple #[v1, v2, .int .i64 0]) ∧ w.heap.size ≤ B ∧ B ≤ w'.heap.size ∧ w'.ownsRow B 5 1 v2 (encR f p data).length ((encR f p data).map encB) ∧ Below w.heap.size w w' := by
  have hl : ((data ++ List.replicate p 0).reverse).length ≤ 65535 := by simp; omega
  have hg : (genTo f p).length ≤ 281474976710655 := by rw [(gen_ok f p).1]; omega
  by_cases hlt : (trimS (data ++ List.replicate p 0).reverse).length < (trimS (genTo f p)).length
  · have he : encR f p data = trimS (data ++ List.replicate p 0).reverse := by unfold encR modS; rw [if_pos hlt]
    rw [he]
    exact (refDivide_short_own _ _ (by omega) (by omega) hlt vp vq w hv hq).mono fun e w' ⟨v, B, h1, h2, h3, h4, h5⟩ => ⟨_, v, B, h1, h2, h3, h4, h5⟩
  · have he : encR f p data = trimS (divS 29 (trimS (data ++ List.replicate p 0).reverse) (trimS (genTo f p))).1 := by unfold encR modS; rw [if_neg hlt]
    rw [he]
    exact refDivide_long_own _ _ (gen_ne f p) (by omega) hl hg vp vq w hf hv hq
/-- What holds in the region that makes the polynomial, by what of it is done. -/
structure In7 (w : World) (c p : Nat) (data : List UInt8) (sd : Value) (f : Nat → Bool) (w' : World) (x6 x23 x24 x25 x26 x27 x28 x29 x30 : Value) : Prop where
  bel : Below w.heap.size w w'
  h0 : f 0 = true → x23 = .pointer (some ⟨c, 0, none⟩)
  h1 : f 1 = true → x24 = .pointer (some ⟨c, 0, none⟩)
  h2 : f 2 = true → x25 = .pointer (some ⟨c, 0, none⟩)
  h3 : f 3 = true → x26 = .int .i64 (p : Int)
  h4 : f 4 = true → f 7 = false → w'.ownsRow w.heap.size 5 1 x27 p ((List.replicate p (0 : UInt8)).map encB)
  h5 : f 5 = true → x28 = sd
  h6 : f 6 = true → f 7 = false → SlAt w' x29 data.reverse
  h7 : f 7 = true → SlAt w' x30 (data ++ List.replicate p 0).reverse
  h8 : f 8 = true → x6 = x30
  d7 : f 7 = true → f 4 = true ∧ f 6 = true
  d8 : f 8 = true → f 7 = true
set_option maxRecDepth 100000 in
set_option maxHeartbeats 3200000 in
theorem rkEnc_ok {c p f : Nat} (hp : p ≤ 254) (hf : f ≤ 254) (data : List UInt8) (hd0 : 0 < data.length) (h5 : data.length + p ≤ 255) (v : Value) (w : World) (hc : RkAt w c p f) (hv : SlAt w v data) : Calls Try.prog 13 #[.pointer (some ⟨c, 0, none⟩), v] w fun e w' => ∃ a k, e = .returned (.tuple #[.slice a (data.length + p) k, .int .i64 0]) ∧ SlAt w' (.slice a (data.length + p) k) (encS f p data) ∧ Below w.heap.size w w' := by
  have HV := hidD hv
  have HCD := hidD hc
  obtain ⟨⟨ad, cd, rfl, hcd1, hcd2⟩, _⟩ := hv
  have f0 := hc.c0
  have HTU := hidD (fun w' (h : Below w.heap.size w w') => turned_any data (by omega) _ w' (HV.out.next h))
  have HFI := hidD refField_any
  have HGE := hidD (fun w' (h : Below w.heap.size w w') => rkGen_any hp hf w' (HCD.out.next h))
  have HLE := hidD (fun b => refLeft (b := b) f p hp data h5)
  have hn0 : ((data.length : Int) == 0) = false := beq_eq_false_iff_ne.2 (by omega)
  have hni : ¬ (255 : Int) < (data.length : Int) + p := by omega
  obtain ⟨i5, hi5, hz50, hz51, hz52⟩ := info_parts Try.info5
  clear hc
  go_enter Try.func13, Try.ntmps13
  go_wp2_with fail
  have HD0 : Hid (Below w.heap.size w w.drew) := (Below.refl _ _).drew
  have HREV : Hid ((List.replicate p (0 : UInt8)).map encB ++ data.reverse.map encB = ((data ++ List.replicate p 0).reverse).map encB) := by
    show _ = _
    rw [List.reverse_append, List.reverse_replicate, List.map_append]
  have HRVL : Hid (((data ++ List.replicate p (0 : UInt8)).reverse).length = p + data.reverse.length) := by show _ = _; simp
  have HDRL : Hid (data.reverse.length = data.length) := List.length_reverse
  go_cut [6] from 23 to 30 (fun s wx => SlAt wx s (data ++ List.replicate p 0).reverse ∧ Below w.heap.size w wx)
  case first =>
    refine wp_region_inv' (by kernel_rfl) (by kernel_rfl) (fun _ f a w' => ∃ x6 x23 x24 x25 x26 x27 x28 x29 x30, a = { tmps := #[.pointer (some ⟨c, 0, none⟩), .slice ad data.length cd, undef, undef, .slice none 0 0, .int .i64 0, x6, undef, undef, undef, .pointer (some ⟨c, 0, none⟩), .bool false, .slice ad data.length cd, .int .i64 (data.length : Int), .bool false, .slice ad data.length cd, .int .i64 (data.length : Int), .pointer (some ⟨c, 0, none⟩), .pointer (some ⟨c, 0, none⟩), .pointer (some ⟨c, 0, none⟩), .int .i64 (p : Int), .int .i64 ((data.length : Int) + (p : Int)), .bool false, x23, x24, x25, x26, x27, x28, x29, x30, undef, undef, undef, undef, undef, undef, undef, undef, undef, undef, undef, undef, undef, undef, undef, undef, undef, undef, undef, undef, undef, undef, undef, undef, undef], defers := [] } ∧ In7 w c p data (.slice ad data.length cd) f w' x6 x23 x24 x25 x26 x27 x28 x29 x30) ?h0 ?hst ?hend
    case h0 => exact ⟨_, _, _, _, _, _, _, _, _, rfl, ⟨⟨rfl, rfl, rfl, Nat.le_refl _, fun _ _ => rfl⟩, nofun, nofun, nofun, nofun, nofun, nofun, nofun, nofun, nofun, nofun, nofun⟩⟩
    case hst =>
      intro f a w' i o hI hi hfi haf
      obtain ⟨x6, x23, x24, x25, x26, x27, x28, x29, x30, rfl, hin⟩ := hI
      have hil := (List.getElem?_eq_some_iff.1 hi).1
      simp only [List.length_cons, List.length_nil] at hil
      have HII := hidD hi
      have HIN := hidD hin
      rcases (show i = 0 ∨ i = 1 ∨ i = 2 ∨ i = 3 ∨ i = 4 ∨ i = 5 ∨ i = 6 ∨ i = 7 ∨ i = 8 by omega) with rfl | rfl | rfl | rfl | rfl | rfl | rfl | rfl | rfl
      · simp only [List.getElem?_cons_zero] at hi
        obtain rfl := Option.some.inj hi
        clear hin hi
        refine wpOp_plain HII.out ?_
        go_wp2_with fail
        refine ⟨x6, (.pointer (some ⟨c, 0, none⟩)), x24, x25, x26, x27, x28, x29, x30, ⟨rfl, rfl, rfl, rfl, rfl, rfl, rfl, rfl, rfl⟩, ?_⟩
        exact ⟨HIN.out.bel, fun _ => rfl, HIN.out.h1, HIN.out.h2, HIN.out.h3, HIN.out.h4, HIN.out.h5, HIN.out.h6, HIN.out.h7, HIN.out.h8, HIN.out.d7, HIN.out.d8⟩
      · simp only [List.getElem?_cons_zero, List.getElem?_cons_succ] at hi
        obtain rfl := Option.some.inj hi
        have d0 : f 0 = true := haf ⟨0, .data⟩ (by simp) rfl
        obtain rfl := hin.h0 d0
        clear hin hi
        refine wpOp_plain HII.out ?_
        go_wp2_with fail
        refine ⟨x6, (.pointer (some ⟨c, 0, none⟩)), (.pointer (some ⟨c, 0, none⟩)), x25, x26, x27, x28, x29, x30, ⟨rfl, rfl, rfl, rfl, rfl, rfl, rfl, rfl, rfl⟩, ?_⟩
        exact ⟨HIN.out.bel, fun _ => rfl, fun _ => rfl, HIN.out.h2, HIN.out.h3, HIN.out.h4, HIN.out.h5, HIN.out.h6, HIN.out.h7, HIN.out.h8, HIN.out.d7, HIN.out.d8⟩
      · simp only [List.getElem?_cons_zero, List.getElem?_cons_succ] at hi
        obtain rfl := Option.some.inj hi
        have d1 : f 1 = true := haf ⟨1, .data⟩ (by simp) rfl
        obtain rfl := hin.h1 d1
        clear hin hi
        refine wpOp_plain HII.out ?_
        go_wp2_with fail
        refine ⟨x6, x23, (.pointer (some ⟨c, 0, none⟩)), (.pointer (some ⟨c, 0, none⟩)), x26, x27, x28, x29, x30, ⟨rfl, rfl, rfl, rfl, rfl, rfl, rfl, rfl, rfl⟩, ?_⟩
        exact ⟨HIN.out.bel, HIN.out.h0, fun _ => rfl, fun _ => rfl, HIN.out.h3, HIN.out.h4, HIN.out.h5, HIN.out.h6, HIN.out.h7, HIN.out.h8, HIN.out.d7, HIN.out.d8⟩
      · simp only [List.getElem?_cons_zero, List.getElem?_cons_succ] at hi
        obtain rfl := Option.some.inj hi
        have d2 : f 2 = true := haf ⟨2, .data⟩ (by simp) rfl
        obtain rfl := hin.h2 d2
        clear hin hi
        refine wpOp_plain HII.out ?_
        have f3 : w'.cell? ⟨c, 0, none⟩ = some (.int .i64 (p : Int)) := (HCD.out.next HIN.out.bel).c0
        go_wp2_with fail
        refine ⟨x6, x23, x24, (.pointer (some ⟨c, 0, none⟩)), (.int .i64 (p : Int)), x27, x28, x29, x30, ⟨rfl, rfl, rfl, rfl, rfl, rfl, rfl, rfl, rfl⟩, ?_⟩
        exact ⟨HIN.out.bel, HIN.out.h0, HIN.out.h1, fun _ => rfl, fun _ => rfl, HIN.out.h4, HIN.out.h5, HIN.out.h6, HIN.out.h7, HIN.out.h8, HIN.out.d7, HIN.out.d8⟩
      · simp only [List.getElem?_cons_zero, List.getElem?_cons_succ] at hi
        obtain rfl := Option.some.inj hi
        have d3 : f 3 = true := haf ⟨3, .data⟩ (by simp) rfl
        obtain rfl := hin.h3 d3
        clear hin hi
        refine wpOp_plain HII.out ?_
        go_wp2_with (at_make; refine wpList_make_full _ rfl _ _ 22 rfl w.heap.size 5 i5 (.int .u8 0) 1 Try.underlying22 hi5 hz50 hz51 _ _ _ _ p rfl rfl (by omega) (by omega) (by rw [hz52]; omega) (by unfold maxLen; omega) HIN.out.bel.size ?_; intro w9 hown9 hg9; rw [made_zeros] at hown9; have HO9 := hidD hown9; have HB9 := hidD ((Below.refl _ _).grown hg9 (Nat.le_refl _) (fun k hk => by cases hk)); clear hown9 hg9)
        refine ⟨x6, x23, x24, x25, (.int .i64 (p : Int)), _, x28, x29, x30, ⟨rfl, rfl, rfl, rfl, rfl, rfl, rfl, rfl, rfl⟩, ?_⟩
        exact ⟨Below.next HIN.out.bel HB9.out, HIN.out.h0, HIN.out.h1, HIN.out.h2, fun _ => rfl, fun _ _ => HO9.out, HIN.out.h5, fun h h7 => (HIN.out.h6 h h7).next HB9.out, (fun h => by have := (HIN.out.d7 h).1; rw [hfi] at this; cases this), HIN.out.h8, (fun h => by have := (HIN.out.d7 h).1; rw [hfi] at this; cases this), HIN.out.d8⟩
      · simp only [List.getElem?_cons_zero, List.getElem?_cons_succ] at hi
        obtain rfl := Option.some.inj hi
        clear hin hi
        refine wpOp_plain HII.out ?_
        go_wp2_with fail
        refine ⟨x6, x23, x24, x25, x26, x27, (.slice ad data.length cd), x29, x30, ⟨rfl, rfl, rfl, rfl, rfl, rfl, rfl, rfl, rfl⟩, ?_⟩
        exact ⟨HIN.out.bel, HIN.out.h0, HIN.out.h1, HIN.out.h2, HIN.out.h3, HIN.out.h4, fun _ => rfl, HIN.out.h6, HIN.out.h7, HIN.out.h8, HIN.out.d7, HIN.out.d8⟩
      · simp only [List.getElem?_cons_zero, List.getElem?_cons_succ] at hi
        obtain rfl := Option.some.inj hi
        have d5 : f 5 = true := haf ⟨5, .data⟩ (by simp) rfl
        obtain rfl := hin.h5 d5
        clear hin hi
        refine wpOp_plain HII.out ?_
        go_wp2_with (go_at_call 36; refine (HTU.out _ HIN.out.bel).mono ?_; rintro e w9 ⟨u9, rfl, hu9, hb9⟩; have HU9 := hidD hu9; have HB9 := hidD hb9; clear hu9 hb9)
        refine ⟨x6, x23, x24, x25, x26, x27, (.slice ad data.length cd), _, x30, ⟨rfl, rfl, rfl, rfl, rfl, rfl, rfl, rfl, rfl⟩, ?_⟩
        exact ⟨Below.next HIN.out.bel HB9.out, HIN.out.h0, HIN.out.h1, HIN.out.h2, HIN.out.h3, fun h h7 => row_below (HIN.out.h4 h h7) HB9.out, fun _ => rfl, fun _ _ => HU9.out, (fun h => by have := (HIN.out.d7 h).2; rw [hfi] at this; cases this), HIN.out.h8, (fun h => by have := (HIN.out.d7 h).2; rw [hfi] at this; cases this), HIN.out.d8⟩
      · simp only [List.getElem?_cons_zero, List.getElem?_cons_succ] at hi
        obtain rfl := Option.some.inj hi
        have d4 : f 4 = true := haf ⟨4, .data⟩ (by simp) rfl
        have d6 : f 6 = true := haf ⟨6, .data⟩ (by simp) rfl
        have HN8 : Hid (f 8 = false) := Bool.eq_false_iff.2 fun h8 => by have := hin.d8 h8; rw [hfi] at this; cases this
        clear hin hi
        refine wpOp_plain HII.out ?_
        go_wp2_with (at_builtin; refine wpList_append_by rfl _ _ rfl w.heap.size x27 p _ rfl (HIN.out.h4 d4 hfi) x29 data.reverse rfl (HIN.out.h6 d6 hfi).by' (by rw [HDRL.out]; omega) HIN.out.bel.size ?_; intro v10 w10 hown10 hg10; rw [HREV.out] at hown10; have HO10 := hidD hown10; have HB10 := hidD (row_grown (HIN.out.h4 d4 hfi) HIN.out.bel hg10 HIN.out.bel.size); clear hown10 hg10)
        refine ⟨x6, x23, x24, x25, x26, x27, x28, x29, _, ⟨rfl, rfl, rfl, rfl, rfl, rfl, rfl, rfl, rfl⟩, ?_⟩
        exact ⟨HB10.out, HIN.out.h0, HIN.out.h1, HIN.out.h2, HIN.out.h3, (fun _ h => by cases h), HIN.out.h5, (fun _ h => by cases h), fun _ => sl_of_own (base := w.heap.size) (by rw [HRVL.out]; exact HO10.out), fun h => absurd (show f 8 = true from h) (by rw [HN8.out]; decide), fun _ => ⟨d4, d6⟩, fun _ => rfl⟩
      · simp only [List.getElem?_cons_zero, List.getElem?_cons_succ] at hi
        obtain rfl := Option.some.inj hi
        have d7 : f 7 = true := haf ⟨7, .data⟩ (by simp) rfl
        clear hin hi
        refine wpOp_plain HII.out ?_
        go_wp2_with fail
        refine ⟨x30, x23, x24, x25, x26, x27, x28, x29, x30, ⟨rfl, rfl, rfl, rfl, rfl, rfl, rfl, rfl, rfl⟩, ?_⟩
        exact ⟨HIN.out.bel, HIN.out.h0, HIN.out.h1, HIN.out.h2, HIN.out.h3, HIN.out.h4, HIN.out.h5, HIN.out.h6, HIN.out.h7, fun _ => rfl, HIN.out.d7, fun _ => d7⟩
    case hend =>
      intro f a w' hI hall
      obtain ⟨x6, x23, x24, x25, x26, x27, x28, x29, x30, rfl, hin⟩ := hI
      obtain rfl := hin.h8 (hall 8 (by simp))
      have HS := hidD (hin.h7 (hall 7 (by simp)))
      have HB := hidD hin.bel
      clear hin hall
      go_wp2_with fail
      go_meet
      exact ⟨HS.out, HB.out⟩
  case rest =>
    obtain ⟨hsl, hbc⟩ := hcut
    have HSC := hidD hsl
    have HBC := hidD hbc
    clear hsl hbc
    have HAL : Hid (∀ (w' : World) o, Below w'.heap.size w' (w'.alloc o)) := fun w' o => (Below.refl _ _).alloc (Nat.le_refl _) o
    have HPF := hidD (padR_first (encR f p data))
    have HPN := hidD (padR_next (encR f p data))
    have HPL := hidD (padR_length (encR f p data))
    have HRL := hidD (encR_len f p data)
    have HEI := hidD (enc_is f p data)
    have HBS : Hid (∀ w' : World, ByAt (w'.alloc (.cells #[.int .u8 0] (5 : TypeId))) (.slice (some ⟨w'.heap.size, 0, none⟩) 1 1) [0]) := fun w' => (sl_new w' [0] _ 1 rfl rfl (by omega)).by'
    have HTP : Hid (∀ w' u, SlAt w' u (padR (encR f p data) p) → Calls Try.prog 36 #[u] w' fun e w2 => ∃ u2, e = .returned u2 ∧ SlAt w2 u2 (padR (encR f p data) p).reverse ∧ Below w'.heap.size w' w2) := fun w' u hs => turned_any _ (by rw [padR_length _ _ (encR_len f p data)]; omega) u w' hs
    clear f0
    generalize encR f p data = R at *
    go_wp2_with (first
      | (go_at_call 37; refine (HFI.out _).mono ?_; rintro e w3 ⟨b, rfl, _, hf3, hb3⟩; have HF3 := hidD hf3; have HB3 := hidD (Below.next HBC.out hb3); have HS3 := hidD (HSC.out.next hb3); clear hf3 hb3)
      | (go_at_call 18; refine (HGE.out _ HB3.out).mono ?_; rintro e w4 ⟨vg, rfl, hg4, hb4⟩; have HG4 := hidD hg4; have HF4 := hidD (HF3.out.next hb4); have HS4 := hidD (HS3.out.next hb4); have HB4 := hidD (Below.next HB3.out hb4); clear hg4 hb4)
      | (go_at_call 38; refine (HLE.out _ _ _ _ HF4.out HS4.out HG4.out).mono ?_; rintro e w5 ⟨v1, v2, B, rfl, hB1, hB2, ho5, hb5⟩; have HO5 := hidD ho5; have HBB := hidD hB1; have HB2 := hidD hB2; have HB5 := hidD (Below.next HB4.out hb5); clear ho5 hb5 hB1 hB2))
    go_loopw [8] (fun o wr => ∃ k : Nat, R.length ≤ k ∧ k ≤ p ∧ wr.ownsRow B 5 1 o k ((padR R k).map encB) ∧ Below w.heap.size w wr ∧ B ≤ wr.heap.size) (fun o _ => p - lenV o)
    case atStart => exact ⟨R.length, Nat.le_refl _, HRL.out, by rw [HPF.out]; exact HO5.out, HB5.out, HB2.out⟩
    case round =>
      obtain ⟨k, hk1, hk2, hown, hbel, hbs⟩ := hrel
      have HOW := hidD hown
      have HBW := hidD hbel
      have f0 : wr.cell? ⟨c, 0, none⟩ = some (.int .i64 p) := (HCD.out.next hbel).c0
      obtain ⟨a8, c8, hu8⟩ := row_shape hown
      subst hu8
      clear hown hbel
      by_cases hlt : k < p
      · have hlti : (k : Int) < p := by omega
        have HN := hidD (HPN.out k hk1)
        have HWB : Hid (w.heap.size ≤ B) := Nat.le_trans HB4.out.size HBB.out
        generalize hRR : (padR R k).map encB = RR at *
        have HRR := hidD hRR
        clear hRR
        go_wp2_with (at_builtin; refine wpList_append_by rfl _ _ rfl B (.slice a8 k c8) k RR rfl (HOW.out.alloc _) (.slice (some ⟨wr.heap.size, 0, none⟩) 1 1) [0] rfl (HBS.out wr) (by simp; omega) (by simp; omega) ?_; intro v9 w9 hown9 hg9; obtain ⟨a9, c9, hv9⟩ := row_shape hown9; subst hv9; have HO9 := hidD hown9; have HB9 := hidD ((Below.next HBW.out (HAL.out _ _)).trans ((row_grown (HOW.out.alloc _) (Below.refl B _) hg9 (by simp; omega)).mono HWB.out)); have HZ9 := hidD (row_grown (HOW.out.alloc (.cells #[.int .u8 0] (5 : TypeId))) (Below.refl B _) hg9 (by simp; omega)).size; clear hown9 hg9)
        go_roundw
        case rel => exact ⟨k + 1, by omega, by omega, by rw [HN.out, List.map_append, HRR.out]; exact HO9.out, HB9.out, by have := HZ9.out; simp at this; omega⟩
        case measure => simp [lenV]; omega
      · obtain rfl : p = k := by omega
        have HPP : Hid ((padR R p).length = p) := HPL.out p HRL.out
        have HPR : Hid ((padR R p).reverse.length = p) := by show _ = _; rw [List.length_reverse]; exact HPP.out
        have HSL : Hid (SlAt wr (.slice a8 p c8) (padR R p)) := by
          refine sl_of_own (base := B) ?_
          rw [HPP.out]; exact HOW.out
        have HVW := hidD (HV.out.next HBW.out)
        have HOW0 : Hid ((wr.alloc (.cells #[] (5 : TypeId))).ownsRow wr.heap.size 5 1 (.slice (some ⟨wr.heap.size, 0, none⟩) 0 0) 0 []) := full_row (Nat.le_refl _) rfl (by unfold maxLen; omega) (heap_alloc_last _ _)
        have HES : Hid (∀ w' a' c', w'.ownsRow wr.heap.size 5 1 (.slice a' (data.length + p) c') (data.length + p) (data.map encB ++ (padR R p).reverse.map encB) → SlAt w' (.slice a' (data.length + p) c') (encS f p data)) := fun w' a' c' h => by
          refine sl_of_own (base := wr.heap.size) ?_
          rw [HEI.out, List.length_append, HPR.out, List.map_append]
          exact h
        generalize padR R p = RR at *
        clear HOW hk1 hk2 hlt hbs
        go_wp2_with (first
          | (at_builtin; refine wpList_append_by rfl _ _ rfl wr.heap.size (.slice (some ⟨wr.heap.size, 0, none⟩) 0 0) 0 [] rfl HOW0.out (.slice ad data.length cd) data rfl (HVW.out.next (HAL.out _ _)).by' (by omega) (by simp) ?_; intro v9 w9 hown9 hg9; rw [Nat.zero_add, List.nil_append] at hown9; obtain ⟨a9, c9, hv9⟩ := row_shape hown9; subst hv9; have HO9 := hidD hown9; have HB9 := hidD (row_grown HOW0.out (HAL.out _ _) hg9 (by simp)); clear hown9 hg9)
          | (go_at_call 36; refine (HTP.out _ _ (HSL.out.next HB9.out)).mono ?_; rintro e w10 ⟨u2, rfl, hu2, hb10⟩; have HU10 := hidD hu2; have HO10 := hidD (row_below HO9.out hb10); have HB10 := hidD (Below.next HB9.out hb10); clear hu2 hb10)
          | (at_builtin; refine wpList_append_by rfl _ _ rfl wr.heap.size (.slice a9 data.length c9) data.length (data.map encB) rfl HO10.out u2 RR.reverse rfl HU10.out.by' (by rw [HPR.out]; omega) HB10.out.size ?_; intro v11 w11 hown11 hg11; rw [HPR.out] at hown11; obtain ⟨a11, c11, hv11⟩ := row_shape hown11; subst hv11; have HS11 := hidD (HES.out _ _ _ hown11); have HB11 := hidD (row_grown HO10.out HB10.out hg11 HB10.out.size); clear hown11 hg11))
        refine bodyPost_ret (v := .tuple #[.slice a11 (data.length + p) c11, .int .i64 0]) (by simp [results, Try.results13, go_sem]) rfl ?_
        exact ⟨a11, c11, rfl, HS11.out, Below.next HBW.out HB11.out⟩
end Go.Proofs.Ytdpkeffkpecmjaa
