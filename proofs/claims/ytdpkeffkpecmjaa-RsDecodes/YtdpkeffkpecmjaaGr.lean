/- Texts of one proof, one behind the other. -/
import Derived.Test.YtdpkeffkpecmjaaGq
import Derived.Test.YtdpkeffkpecmjaaGy
/- What the document's Decode answers. -/
namespace Go.Proofs.Ytdpkeffkpecmjaa
open Go.RowKit
set_option linter.unusedVariables false

theorem sliceAt_i (g o len cap C : Nat) (hC : C ≤ cap) (hp : 0 < cap) (w : World) : (Instr.sliceAt 38 (.slice (some ⟨g, o, none⟩) len cap) none (some (.int .i64 (C : Int))) none).run Try.prog w = .ok (.slice (some ⟨g, o, none⟩) C cap) w := by
  have hu : Try.prog.underlying 38 = some (.slice (Try.prog.elem 38)) := by kernel_rfl
  have he : Try.prog.elem 38 = 3 := by kernel_rfl
  obtain ⟨i0, hin, _, hz1, _⟩ := info_parts Try.info3
  rw [run_sliceAt_slice w 38 _ _ _ _ hu, run_slice_h w 38 _ len cap hu .i64 (C : Int) (by omega) (by omega), he, run_sizeOf w hin, Result.andThen_ok]
  simp only [sliced, Int.toNat_natCast, Nat.zero_mul, Nat.sub_zero]
  rw [if_neg (by omega)]
  rfl
theorem il_first {w : World} {g o n cap k : Nat} {L : List Int} (h : IlAt w (.slice (some ⟨g, o, none⟩) n cap) L) (hk : k ≤ L.length) : IlAt w (.slice (some ⟨g, o, none⟩) k cap) (L.take k) := by
  obtain ⟨a, c, he, h1, h2, h3⟩ := h
  injection he with e1 e2 e3
  subst e1 e2 e3
  have hl : (L.take k).length = k := by rw [List.length_take]; omega
  refine ⟨_, cap, by rw [hl], by omega, h2, fun j hj => ?_⟩
  rw [hl] at hj
  obtain ⟨g', o', e4, h4, h5⟩ := h3 j (by omega)
  refine ⟨g', o', e4, h4, ?_⟩
  rw [h5, List.getD_eq_getElem?_getD, List.getD_eq_getElem?_getD, List.getElem?_take, if_pos hj]
/-- What Decode answers: the error, or the data and the places. -/
def DcIs (f p : Nat) (word : List UInt8) (L : List Int) (e : Ending) (w' : World) : Prop :=
  (mErr f p word L ≠ 0 ∧ e = .returned (.tuple #[.slice none 0 0, .slice none 0 0, .int .i64 (mErr f p word L)])) ∨
  (Fine f p word L ∧ ∃ a k u, e = .returned (.tuple #[.slice a (word.length - p) k, u, .int .i64 0]) ∧ SlAt w' (.slice a (word.length - p) k) ((dWord f p word L).take (word.length - p)) ∧ IlAt w' u (difTo (dWord f p word L) word word.length))
theorem dif_next (A B : List UInt8) (k : Nat) : difTo A B (k + 1) = if cf A k = cf B k then difTo A B k else difTo A B k ++ [(k : Int)] := rfl
set_option maxRecDepth 100000 in
set_option maxHeartbeats 6400000 in
theorem rdecode_any {c p f : Nat} (hp1 : 1 ≤ p) (hp : p ≤ 254) (hf : f ≤ 254) (r : List UInt8) (L : List Int) (hll : L.length ≤ 9223372036854775800) (vw vl : Value) (w : World) (hc : RkAt w c p f) (hvw : SlAt w vw r) (hvl : IlAt w vl L) :
    Calls Try.prog 22 #[.pointer (some ⟨c, 0, none⟩), vw, vl] w fun e w' => DcIs f p r L e w' ∧ Below w.heap.size w w' := by
  have HCD := hidD hc
  have HVW := hidD hvw
  have HVL := hidD hvl
  obtain ⟨⟨aw, cw, rfl, hcw1, hcw2⟩, hwb⟩ := hvw
  obtain ⟨al, cl, rfl, hcl1, hcl2, hlc⟩ := hvl
  have HFA := hidD (fault_any r.length aw cw w hc)
  by_cases hfau : fauE p r.length = 0
  · rw [hfau] at HFA
    have hlen : p < r.length ∧ r.length ≤ 255 := by
      unfold fauE at hfau
      split at hfau
      · cases hfau
      · split at hfau
        · cases hfau
        · omega
    obtain ⟨h1, h2⟩ := hlen
    clear hfau
    have HLC := hidD hlc
    have HWC := hidD hwb.shape
    have HAT := hidD (fun h => are_true (L := L) (n := r.length) h)
    have HAF := hidD (fun i => are_false (L := L) (n := r.length) (i := i))
    have HE1 : Hid (areS L r.length = false → mErr f p r L = 1) := fun h => by
      unfold mErr
      rw [if_neg (by omega), if_neg (by omega), if_pos h]
    have HE2 : Hid (areS L r.length = true → p < L.length → mErr f p r L = 110) := fun h h3 => by
      unfold mErr
      rw [if_neg (by omega), if_neg (by omega), h, if_neg (by decide), if_pos h3]
    have HAM : Hid (∀ (k : Nat) (x : Int) w', k ≤ L.length → IlAt w' (.slice al k cl) (L.take k) → Calls Try.prog 48 #[.slice al k cl, .int .i64 x] w' fun e w2 => e = .returned (.bool (decide (x ∈ L.take k))) ∧ Below w'.heap.size w' w2) := fun k x w' hk h => rkAmong_any (L.take k) (by rw [List.length_take]; omega) x _ w' h
    have HAL : Hid (∀ (w' : World) o, Below w'.heap.size w' (w'.alloc o)) := fun w' o => (Below.refl _ _).alloc (Nat.le_refl _) o
    have HOK : Hid (∀ k, okAt L r.length k = (decide (0 ≤ L.getD k 0) && (decide (L.getD k 0 < (r.length : Int)) && !(L.take k).contains (L.getD k 0)))) := fun k => rfl
    clear hc hlc hwb
    generalize hnn : r.length = n at *
    have HN := hidD hnn
    clear hnn
    generalize hll2 : L.length = ll at *
    have HLL := hidD hll2
    clear hll2
    go_enter Try.func22, Try.ntmps22
    go_wp2_with (go_at_call 41; refine HFA.out.mono ?_; rintro e w2 ⟨rfl, hb2⟩; have HB2 := hidD hb2; clear hb2)
    go_loopw [10] (fun i wr => ∃ k : Nat, k ≤ ll ∧ i = .int .i64 k ∧ (∀ j, j < k → okAt L n j = true) ∧ Below w.heap.size w wr) (fun i _ => ll - (intOf i).toNat)
    case atStart => exact ⟨0, Nat.zero_le _, rfl, fun j hj => absurd hj (by omega), HB2.out⟩
    case round =>
      obtain ⟨k, hk, rfl, hok, hbel⟩ := hrel
      have HOKS := hidD hok
      have HBW := hidD hbel
      clear hok
      by_cases hlt : k < ll
      · have hlti : (k : Int) < ll := by omega
        obtain ⟨gl, ol, rfl, hgl, hcl⟩ := HLC.out k hlt
        have hc0 : wr.cell? ⟨gl, ol + k, none⟩ = some (.int .i64 (L.getD k 0)) := (hbel.cell (p := ⟨gl, ol + k, none⟩) hgl).trans hcl
        have f1 : ∀ i : KB wr [gl], i.v.cell? ⟨gl, ol + k, none⟩ = some (.int .i64 (L.getD k 0)) := fun i => (i.cell (b := gl) (by simp) _).trans hc0
        have hsl : ∀ w', (Instr.sliceAt 38 (.slice (some ⟨gl, ol, none⟩) ll cl) none (some (.int .i64 (k : Int))) none).run Try.prog w' = .ok (.slice (some ⟨gl, ol, none⟩) k cl) w' := fun w' => sliceAt_i gl ol ll cl k (by omega) (by omega) w'
        have HDR : Hid (Below wr.heap.size wr wr.drew) := (Below.refl _ _).drew
        have HIT : Hid (IlAt wr.drew (.slice (some ⟨gl, ol, none⟩) k cl) (L.take k)) := il_first ((HVL.out.next hbel).next HDR.out) (by rw [HLL.out]; exact hk)
        have HKK : Hid (∀ wB, Below wr.heap.size wr wB → ∃ i : KB wr [gl], wB = i.v) := fun wB hb => ⟨⟨wB, fun b hx => by
          rw [show b = gl by simpa using hx]; exact hb.block _ (Nat.lt_of_lt_of_le hgl HBW.out.size)⟩, rfl⟩
        have HAK := hidD (HAM.out k (L.getD k 0) _ hk HIT.out)
        have HOKK := hidD (HOK.out k)
        clear hbel hcl hc0
        by_cases hx0 : L.getD k 0 < 0
        · have HMR : Hid (mErr f p r L = 1) := HE1.out (HAF.out k hlt (by rw [HOKK.out, decide_eq_false (by omega)]; rfl))
          have hd1 : decide (L.getD k 0 < 0) = true := decide_eq_true hx0
          generalize L.getD k 0 = x at *
          go_wp2_with fail
          refine wp_region_seg [0, 0, 0, 0, 0, 0, 0, 0, 0, 0, 0, 0, 0, 0, 0, 0, 0, 0, 0, 0, 0, 0, 1, 2] 1 24 [gl] (by kernel_rfl) (by kernel_rfl) (by kernel_rfl) (by kernel_rfl) (by kernel_rfl) (by kernel_rfl) (by kernel_rfl) (by kernel_rfl) (fun _ _ _ _ _ h => h) ?_
          simp only [SegW, pk, Nat.reduceMul, Nat.reduceAdd, Nat.reduceBEq, cond_true, cond_false]
          repeat (go_big_quiet_step (fail))
          refine wpQuiet_nil ?_
          go_wp2_with (fail)
          refine ⟨HKK.out _ HDR.out, ?_⟩
          repeat (go_big_quiet_step (fail))
          refine wpQuiet_nil ?_
          go_wp2_with fail
          refine bodyPost_ret (v := .tuple #[.slice none 0 0, .slice none 0 0, .int .i64 1]) (by simp [results, Try.results22, go_sem]) rfl ?_
          exact ⟨.inl ⟨by rw [HMR.out]; decide, by rw [HMR.out]⟩, Below.next HBW.out HDR.out⟩
        · have hx0' : 0 ≤ L.getD k 0 := by omega
          by_cases hxn : L.getD k 0 < (n : Int)
          · by_cases hin : L.getD k 0 ∈ L.take k
            · have HMR : Hid (mErr f p r L = 1) := HE1.out (HAF.out k hlt (by rw [HOKK.out, List.contains_iff_mem.2 hin]; simp))
              rw [decide_eq_true hin] at HAK
              have hxg : ¬ (n : Int) ≤ L.getD k 0 := by omega
              have hd1 : decide (L.getD k 0 < 0) = false := decide_eq_false hx0
              have hd2 : decide ((n : Int) ≤ L.getD k 0) = false := decide_eq_false hxg
              generalize L.getD k 0 = x at *
              clear hin
              go_wp2_with fail
              refine wp_region_seg [0, 0, 0, 0, 0, 0, 0, 0, 0, 0, 0, 0, 0, 0, 0, 0, 0, 0, 0, 0, 0, 0, 1, 2] 1 24 [gl] (by kernel_rfl) (by kernel_rfl) (by kernel_rfl) (by kernel_rfl) (by kernel_rfl) (by kernel_rfl) (by kernel_rfl) (by kernel_rfl) (fun _ _ _ _ _ h => h) ?_
              simp only [SegW, pk, Nat.reduceMul, Nat.reduceAdd, Nat.reduceBEq, cond_true, cond_false]
              repeat (go_big_quiet_step (fail))
              refine wpQuiet_nil ?_
              go_wp2_with (go_at_call 48; refine HAK.out.mono ?_; rintro e w3 ⟨rfl, hb3⟩; have HB3 := hidD (HDR.out.trans hb3); clear hb3)
              refine ⟨HKK.out _ HB3.out, ?_⟩
              repeat (go_big_quiet_step (fail))
              refine wpQuiet_nil ?_
              go_wp2_with fail
              refine bodyPost_ret (v := .tuple #[.slice none 0 0, .slice none 0 0, .int .i64 1]) (by simp [results, Try.results22, go_sem]) rfl ?_
              exact ⟨.inl ⟨by rw [HMR.out]; decide, by rw [HMR.out]⟩, Below.next HBW.out HB3.out⟩
            · have HOKT : Hid (okAt L n k = true) := by
                show _ = _
                rw [HOKK.out, decide_eq_true hx0', decide_eq_true hxn]
                simpa using hin
              rw [decide_eq_false hin] at HAK
              have hxg : ¬ (n : Int) ≤ L.getD k 0 := by omega
              have hd1 : decide (L.getD k 0 < 0) = false := decide_eq_false hx0
              have hd2 : decide ((n : Int) ≤ L.getD k 0) = false := decide_eq_false hxg
              generalize L.getD k 0 = x at *
              clear hin
              go_wp2_with fail
              refine wp_region_seg [0, 0, 0, 0, 0, 0, 0, 0, 0, 0, 0, 0, 0, 0, 0, 0, 0, 0, 0, 0, 0, 0, 1, 2] 1 24 [gl] (by kernel_rfl) (by kernel_rfl) (by kernel_rfl) (by kernel_rfl) (by kernel_rfl) (by kernel_rfl) (by kernel_rfl) (by kernel_rfl) (fun _ _ _ _ _ h => h) ?_
              simp only [SegW, pk, Nat.reduceMul, Nat.reduceAdd, Nat.reduceBEq, cond_true, cond_false]
              repeat (go_big_quiet_step (fail))
              refine wpQuiet_nil ?_
              go_wp2_with (go_at_call 48; refine HAK.out.mono ?_; rintro e w3 ⟨rfl, hb3⟩; have HB3 := hidD (HDR.out.trans hb3); clear hb3)
              refine ⟨HKK.out _ HB3.out, ?_⟩
              repeat (go_big_quiet_step (fail))
              refine wpQuiet_nil ?_
              go_wp2_with fail
              go_roundw
              case rel => exact ⟨k + 1, by omega, by go_num, fun j hj => by
                by_cases h : j = k
                · rw [h]; exact HOKT.out
                · exact HOKS.out j (by omega), Below.next HBW.out HB3.out⟩
              case measure => simp [intOf]; omega
          · have HMR : Hid (mErr f p r L = 1) := HE1.out (HAF.out k hlt (by rw [HOKK.out, decide_eq_false hxn]; simp))
            have hxg : (n : Int) ≤ L.getD k 0 := by omega
            have hd1 : decide (L.getD k 0 < 0) = false := decide_eq_false hx0
            have hd2 : decide ((n : Int) ≤ L.getD k 0) = true := decide_eq_true hxg
            generalize L.getD k 0 = x at *
            go_wp2_with fail
            refine wp_region_seg [0, 0, 0, 0, 0, 0, 0, 0, 0, 0, 0, 0, 0, 0, 0, 0, 0, 0, 0, 0, 0, 0, 1, 2] 1 24 [gl] (by kernel_rfl) (by kernel_rfl) (by kernel_rfl) (by kernel_rfl) (by kernel_rfl) (by kernel_rfl) (by kernel_rfl) (by kernel_rfl) (fun _ _ _ _ _ h => h) ?_
            simp only [SegW, pk, Nat.reduceMul, Nat.reduceAdd, Nat.reduceBEq, cond_true, cond_false]
            repeat (go_big_quiet_step (fail))
            refine wpQuiet_nil ?_
            go_wp2_with (fail)
            refine ⟨HKK.out _ HDR.out, ?_⟩
            repeat (go_big_quiet_step (fail))
            refine wpQuiet_nil ?_
            go_wp2_with fail
            refine bodyPost_ret (v := .tuple #[.slice none 0 0, .slice none 0 0, .int .i64 1]) (by simp [results, Try.results22, go_sem]) rfl ?_
            exact ⟨.inl ⟨by rw [HMR.out]; decide, by rw [HMR.out]⟩, Below.next HBW.out HDR.out⟩
      · obtain rfl : ll = k := by omega
        have hare := HAT.out HOKS.out
        have HARE := hidD hare
        have f0 : wr.cell? ⟨c, 0, none⟩ = some (.int .i64 p) := (HCD.out.next hbel).c0
        have HCW := hidD (HCD.out.next hbel)
        obtain ⟨wo, hwo⟩ : ∃ wo, wo = wr := ⟨_, rfl⟩
        subst hwo
        clear hbel
        by_cases hmany : p < ll
        · have HMR := hidD (HE2.out hare hmany)
          have hmi : (p : Int) < ll := by omega
          go_wp2_with fail
          refine bodyPost_ret (v := .tuple #[.slice none 0 0, .slice none 0 0, .int .i64 110]) (by simp [results, Try.results22, go_sem]) rfl ?_
          exact ⟨.inl ⟨by rw [HMR.out]; decide, by rw [HMR.out]⟩, HBW.out⟩
        · have hmi : ¬ (p : Int) < ll := by omega
          have HME : Hid (∀ vw vl w', RkAt w' c p f → SlAt w' vw r → IlAt w' vl L → Calls Try.prog 49 #[.pointer (some ⟨c, 0, none⟩), vw, vl] w' fun e w2 => ∃ u X, e = .returned u ∧ SlAt w2 u X ∧ MdIs f p r L X ∧ Below w'.heap.size w' w2) := fun vw vl w' h3 h4 h5 => mended_any hp1 hp hf r (by rw [HN.out]; exact h1) (by rw [HN.out]; exact h2) L (by rw [HN.out]; exact HARE.out) (by rw [HLL.out]; omega) vw vl w' h3 h4 h5
          have HNO : Hid (¬ Fine f p r L → mErr f p r L ≠ 0 ∧ mErr f p r L = 110) := fun h => by
            have h3 : mErr f p r L ≠ 0 := fun h4 => h ((fine_iff f p r L).1 h4)
            exact ⟨h3, merr_lost (by rw [HN.out]; exact h1) (by rw [HN.out]; exact h2) (by rw [HN.out]; exact HARE.out) h3⟩
          clear hmany hare
          go_upto_region 12 with (go_at_call 49; refine (HME.out _ _ _ HCW.out (HVW.out.next HBW.out) (HVL.out.next HBW.out)).mono ?_; rintro e w3 ⟨v3, X, rfl, hs3, hm3, hb3⟩; have HX3 := hidD hs3; have HM3 := hidD hm3; have HC3 := hidD (HCW.out.next hb3); have HB3 := hidD (Below.next HBW.out hb3); obtain ⟨⟨aX, cX, hvX, hcX1, hcX2⟩, _⟩ := hs3; subst hvX; clear hm3 hb3)
          have HFD := hidD (fun h => fine_doc hp1 hp HM3.out h)
          by_cases hXl : X.length = n
          · have HXL := hidD hXl
            have hnn : ((n : Int) != n) = false := by simp
            have hnb : ((n : Int) == n) = true := beq_self_eq_true _
            rw [hXl] at HX3 hcX1 ⊢
            clear hXl
            have HGD := hidD (fun w' v h3 h4 => rkGood_any hp hf X v w' (c := c) h3 h4)
            by_cases hXg : goodS f p X = true
            · rw [hXg] at HGD
              have HXG := hidD hXg
              clear hXg
              have HAI : Hid (∀ (x : Int) w', IlAt w' (.slice al ll cl) L → Calls Try.prog 48 #[.slice al ll cl, .int .i64 x] w' fun e w2 => e = .returned (.bool (decide (x ∈ L))) ∧ Below w'.heap.size w' w2) := fun x w' h => rkAmong_any L (by rw [HLL.out]; omega) x _ w' h
              have HDL := hidD (dif_len X r)
              have HDN := hidD (dif_next X r)
              have HEL := hidD (eTo_le X r L)
              have HEN : Hid (∀ k, eTo X r L (k + 1) = if cf X k ≠ cf r k ∧ (k : Int) ∉ L then eTo X r L k + 1 else eTo X r L k) := fun k => rfl
              go_wp2_with (go_at_call 20; refine (HGD.out _ _ HC3.out HX3.out).mono ?_; rintro e w4 ⟨rfl, hb4⟩; have HX4 := hidD (HX3.out.next hb4); have HC4 := hidD (HC3.out.next hb4); have HB4 := hidD (Below.next HB3.out hb4); clear hb4)
              go_loopw [12, 13, 14] (fun o e i wr => ∃ k : Nat, k ≤ n ∧ i = .int .i64 k ∧ e = .int .i64 (eTo X r L k : Nat) ∧ wr.ownsRow w4.heap.size 3 1 o (difTo X r k).length ((difTo X r k).map encI) ∧ Below w4.heap.size w4 wr) (fun _ _ i _ => n - (intOf i).toNat)
              case atStart => exact ⟨0, Nat.zero_le _, rfl, rfl, World.ownsRow_nil _ _ _ _, Below.refl _ _⟩
              case round =>
                obtain ⟨k, hk, rfl, rfl, hown, hbel⟩ := hrel
                have HOW := hidD hown
                have HBX := hidD hbel
                have hek := HEL.out k
                by_cases hlt : k < n
                · have hlti : (k : Int) < n := by omega
                  obtain ⟨gx, ox, hgx, hcx, hax⟩ : ∃ gx ox, gx < w4.heap.size ∧ w4.cell? ⟨gx, ox + k, none⟩ = some (.int .u8 ((cf X k).toNat : Int)) ∧ aX = some ⟨gx, ox, none⟩ := by
                    rcases HX4.out.by' with ⟨h0, _⟩ | ⟨g', o', c', he, h3, h4⟩
                    · have := HXL.out
                      rw [h0] at this
                      simp at this
                      omega
                    · injection he with e1 e2 e3
                      exact ⟨g', o', h3, h4 k (by rw [HXL.out]; exact hlt), e1⟩
                  obtain ⟨gw, ow, hgw, hcw, haw⟩ : ∃ gw ow, gw < w.heap.size ∧ w.cell? ⟨gw, ow + k, none⟩ = some (.int .u8 ((cf r k).toNat : Int)) ∧ aw = some ⟨gw, ow, none⟩ := by
                    obtain ⟨a', c', he, hcells⟩ := HWC.out
                    injection he with e1 e2 e3
                    obtain ⟨g', o', h3, h4, h5⟩ := hcells k hlt
                    exact ⟨g', o', h4, h5, by rw [e1, h3]⟩
                  subst hax haw
                  have f1 : wr.cell? ⟨gx, ox + k, none⟩ = some (.int .u8 ((cf X k).toNat : Int)) := (hbel.cell (p := ⟨gx, ox + k, none⟩) hgx).trans hcx
                  have f2 : wr.cell? ⟨gw, ow + k, none⟩ = some (.int .u8 ((cf r k).toNat : Int)) := ((Below.next HB4.out hbel).cell (p := ⟨gw, ow + k, none⟩) hgw).trans hcw
                  have HN1 := hidD (HDN.out k)
                  have HN2 := hidD (HEN.out k)
                  have hdl := HDL.out k
                  have HVK := hidD (HVL.out.next (Below.next HB4.out hbel))
                  clear hown hbel hcx hcw
                  by_cases heq : cf X k = cf r k
                  · rw [if_pos heq] at HN1
                    rw [if_neg (fun h => h.1 heq)] at HN2
                    rw [heq] at f1
                    have hbb : ((((cf r k).toNat : Nat) : Int) != ((cf r k).toNat : Int)) = false := by simp
                    have hbe : ((((cf r k).toNat : Nat) : Int) == ((cf r k).toNat : Int)) = true := beq_self_eq_true _
                    clear heq
                    generalize eTo X r L k = ek at *
                    generalize cf r k = y at *
                    go_wp2_with fail
                    go_quiet (fail)
                    go_wp2_with fail
                    go_roundw
                    case rel => exact ⟨k + 1, by omega, by go_num, by rw [HN2.out], by rw [HN1.out]; exact row_below HOW.out (below_drewN (Below.refl _ _) _), below_drewN HBX.out _⟩
                    case measure => simp [intOf]; omega
                  · have hne : ¬ ((cf X k).toNat : Int) = ((cf r k).toNat : Int) := fun h => heq (UInt8.toNat.inj (by omega))
                    have hbb : (((cf X k).toNat : Int) != ((cf r k).toNat : Int)) = true := bne_iff_ne.2 hne
                    have hbe : (((cf X k).toNat : Int) == ((cf r k).toNat : Int)) = false := beq_eq_false_iff_ne.2 hne
                    rw [if_neg heq] at HN1
                    have HHE := hidD heq
                    obtain ⟨a5, c5, h5⟩ := row_shape HOW.out
                    subst h5
                    by_cases hin : (k : Int) ∈ L
                    · have HAK := hidD (fun w' h => HAI.out (k : Int) w' h)
                      rw [decide_eq_true hin] at HAK
                      rw [if_neg (fun h => h.2 hin)] at HN2
                      clear heq hin
                      generalize eTo X r L k = ek at *
                      generalize cf X k = xx at *
                      generalize cf r k = yy at *
                      generalize hDD : difTo X r k = DD at *
                      clear hDD
                      generalize hdd : DD.length = dd at *
                      have HDD := hidD hdd
                      clear hdd
                      go_wp2_with fail
                      go_quiet (fail)
                      have HBD := hidD (below_drewN HBX.out nq)
                      have HO5 := hidD (row_below HOW.out (below_drewN (Below.refl _ _) nq))
                      generalize wr.drewN nq = wn at *
                      go_wp2_with (first
                        | (at_builtin; refine wpList_append_int rfl _ _ rfl w4.heap.size (.slice a5 dd c5) dd (DD.map encI) rfl (HO5.out.alloc _) wn.heap.size (k : Int) rfl (new_cell1 wn (.int .i64 (k : Int)) 3 0 _ rfl) (by omega) (by have := HBD.out.size; simp; omega) ?_; intro v8 w8 hown8 hg8; have HO8 := hidD hown8; have HB8 := hidD (row_grown (HO5.out.alloc _) (Below.next HBD.out (HAL.out _ _)) hg8 (by have := HBD.out.size; simp; omega)); clear hown8 hg8)
                        | (go_at_call 48; refine (HAK.out _ ((HVL.out.next HB4.out).next HB8.out)).mono ?_; rintro e w9 ⟨rfl, hb9⟩; have HO9 := hidD (row_below HO8.out hb9); have HB9 := hidD (Below.next HB8.out hb9); clear hb9))
                      go_roundw
                      case rel => exact ⟨k + 1, by omega, by go_num, by rw [HN2.out], by rw [HN1.out, List.length_append, List.map_append, HDD.out]; exact HO9.out, HB9.out⟩
                      case measure => simp [intOf]; omega
                    · have HAK := hidD (fun w' h => HAI.out (k : Int) w' h)
                      rw [decide_eq_false hin] at HAK
                      rw [if_pos ⟨heq, hin⟩] at HN2
                      clear heq hin
                      generalize eTo X r L k = ek at *
                      generalize cf X k = xx at *
                      generalize cf r k = yy at *
                      generalize hDD : difTo X r k = DD at *
                      clear hDD
                      generalize hdd : DD.length = dd at *
                      have HDD := hidD hdd
                      clear hdd
                      go_wp2_with fail
                      go_quiet (fail)
                      have HBD := hidD (below_drewN HBX.out nq)
                      have HO5 := hidD (row_below HOW.out (below_drewN (Below.refl _ _) nq))
                      generalize wr.drewN nq = wn at *
                      go_wp2_with (first
                        | (at_builtin; refine wpList_append_int rfl _ _ rfl w4.heap.size (.slice a5 dd c5) dd (DD.map encI) rfl (HO5.out.alloc _) wn.heap.size (k : Int) rfl (new_cell1 wn (.int .i64 (k : Int)) 3 0 _ rfl) (by omega) (by have := HBD.out.size; simp; omega) ?_; intro v8 w8 hown8 hg8; have HO8 := hidD hown8; have HB8 := hidD (row_grown (HO5.out.alloc _) (Below.next HBD.out (HAL.out _ _)) hg8 (by have := HBD.out.size; simp; omega)); clear hown8 hg8)
                        | (go_at_call 48; refine (HAK.out _ ((HVL.out.next HB4.out).next HB8.out)).mono ?_; rintro e w9 ⟨rfl, hb9⟩; have HO9 := hidD (row_below HO8.out hb9); have HB9 := hidD (Below.next HB8.out hb9); clear hb9))
                      go_roundw
                      case rel => exact ⟨k + 1, by omega, by go_num, by rw [HN2.out]; go_num, by rw [HN1.out, List.length_append, List.map_append, HDD.out]; exact HO9.out, HB9.out⟩
                      case measure => simp [intOf]; omega
                · obtain rfl : n = k := by omega
                  have f3 : wr.cell? ⟨c, 0, none⟩ = some (.int .i64 p) := (HC4.out.next hbel).c0
                  have HIL : Hid (IlAt wr u12 (difTo X r n)) := il_of_own hown
                  have HXW := hidD (HX4.out.next hbel)
                  obtain ⟨a12, c12, h12⟩ := row_shape hown
                  subst h12
                  clear hown hbel HOW
                  have hnp : (n : Int) - (p : Int) = ((n - p : Nat) : Int) := by omega
                  have HNP := hidD hnp
                  have hpn : n - p ≤ cX := by omega
                  have hdl := HDL.out n
                  have HTK : Hid (SlAt wr (.slice aX (n - p) cX) (X.take (n - p))) := HXW.out.take' (by rw [HXL.out]; omega)
                  have HXR : Hid (X.length = r.length) := by show _ = _; rw [HXL.out, HN.out]
                  have HDF := hidD (fun h => doc_fine hp1 hp (r := r) (by rw [HN.out]; exact h1) (by rw [HN.out]; exact h2) (L := L) (by rw [HN.out]; exact HARE.out) HXR.out HXG.out h)
                  rw [HN.out, HLL.out] at HDF
                  by_cases hE : 2 * eTo X r L n + ll ≤ p
                  · have HFN := hidD (HDF.out hE)
                    have hEi : ¬ (p : Int) < 2 * (eTo X r L n : Nat) + (ll : Int) := by omega
                    have HXD := hidD (HFD.out HFN.out).1
                    generalize eTo X r L n = ek at *
                    generalize hnpe : n - p = np at *
                    have HNPE := hidD hnpe
                    clear hE hnpe
                    go_wp2_with fail
                    refine bodyPost_ret (v := .tuple #[.slice aX np cX, .slice a12 (difTo X r n).length c12, .int .i64 0]) (by simp [results, Try.results22, go_sem]) rfl ?_
                    refine ⟨.inr ⟨HFN.out, aX, cX, .slice a12 (difTo X r n).length c12, ?_, ?_, ?_⟩, Below.next HB4.out HBX.out⟩
                    · rw [HN.out, HNPE.out]
                    · rw [HN.out, HNPE.out, ← HXD.out]; exact HTK.out
                    · rw [HN.out, ← HXD.out]; exact HIL.out
                  · have HNF := hidD (HNO.out fun h => hE (by have := (HFD.out h).2.2.2; rwa [HN.out, HLL.out] at this))
                    have hEi : (p : Int) < 2 * (eTo X r L n : Nat) + (ll : Int) := by omega
                    generalize eTo X r L n = ek at *
                    clear hE
                    go_wp2_with fail
                    refine bodyPost_ret (v := .tuple #[.slice none 0 0, .slice none 0 0, .int .i64 110]) (by simp [results, Try.results22, go_sem]) rfl ?_
                    exact ⟨.inl ⟨HNF.out.1, by rw [HNF.out.2]⟩, Below.next HB4.out HBX.out⟩
            · have HNF := hidD (HNO.out fun h => hXg (HFD.out h).2.2.1)
              rw [Bool.eq_false_iff.2 hXg] at HGD
              clear hXg
              go_wp2_with (go_at_call 20; refine (HGD.out _ _ HC3.out HX3.out).mono ?_; rintro e w4 ⟨rfl, hb4⟩; have HB4 := hidD (Below.next HB3.out hb4); clear hb4)
              refine bodyPost_ret (v := .tuple #[.slice none 0 0, .slice none 0 0, .int .i64 110]) (by simp [results, Try.results22, go_sem]) rfl ?_
              exact ⟨.inl ⟨HNF.out.1, by rw [HNF.out.2]⟩, HB4.out⟩
          · have HNF := hidD (HNO.out fun h => hXl ((HFD.out h).2.1.trans HN.out))
            have hnn : ((X.length : Int) != n) = true := bne_iff_ne.2 (by omega)
            have hnb : ((X.length : Int) == n) = false := beq_eq_false_iff_ne.2 (by omega)
            generalize X.length = xl at *
            clear hXl
            go_wp2_with fail
            refine bodyPost_ret (v := .tuple #[.slice none 0 0, .slice none 0 0, .int .i64 110]) (by simp [results, Try.results22, go_sem]) rfl ?_
            exact ⟨.inl ⟨HNF.out.1, by rw [HNF.out.2]⟩, HB3.out⟩
  · have hb : (fauE p r.length == 0) = false := beq_eq_false_iff_ne.2 hfau
    have HMR : Hid (mErr f p r L = fauE p r.length) := by
      show _ = _
      unfold mErr
      unfold fauE at hfau ⊢
      split
      · rfl
      · rename_i h1
        rw [if_neg h1] at hfau
        split
        · rfl
        · rename_i h2
          rw [if_neg h2] at hfau
          exact absurd rfl hfau
    have HNF := hidD hfau
    clear hc hfau hlc hwb
    generalize fauE p r.length = E at *
    go_enter Try.func22, Try.ntmps22
    go_wp2_with (go_at_call 41; refine HFA.out.mono ?_; rintro e w2 ⟨rfl, hb2⟩; have HB2 := hidD hb2; clear hb2)
    refine bodyPost_ret (v := .tuple #[.slice none 0 0, .slice none 0 0, .int .i64 E]) (by simp [results, Try.results22, go_sem]) rfl ?_
    exact ⟨.inl ⟨by rw [HMR.out]; exact HNF.out, by rw [HMR.out]⟩, HB2.out⟩
end Go.Proofs.Ytdpkeffkpecmjaa
/- What the document's Decode and Locator answer, of nil codes too. -/
namespace Go.Proofs.Ytdpkeffkpecmjaa
open Go.RowKit
set_option linter.unusedVariables false

set_option maxRecDepth 100000 in
theorem rdecode_nil (vw vl : Value) (w : World) : Calls Try.prog 22 #[.pointer none, vw, vl] w fun e w' => e = .returned (.tuple #[.slice none 0 0, .slice none 0 0, .int .i64 2]) ∧ Below w.heap.size w w' := by
  have HF := hidD (fault_nil vw w)
  go_enter Try.func22, Try.ntmps22
  go_wp2_with (go_at_call 41; refine HF.out.mono ?_; rintro e w2 ⟨rfl, hb2⟩; have HB2 := hidD hb2; clear hb2)
  refine bodyPost_ret (v := .tuple #[.slice none 0 0, .slice none 0 0, .int .i64 2]) (by simp [results, Try.results22, go_sem]) rfl ?_
  exact ⟨rfl, HB2.out⟩
set_option maxRecDepth 100000 in
theorem rlocator_nil (vw vl : Value) (w : World) : Calls Try.prog 24 #[.pointer none, vw, vl] w fun e w' => e = .returned (.tuple #[.slice none 0 0, .int .i64 2]) ∧ Below w.heap.size w w' := by
  have HF := hidD (rdecode_nil vw vl w)
  go_enter Try.func24, Try.ntmps24
  go_wp2_with (go_at_call 22; refine HF.out.mono ?_; rintro e w2 ⟨rfl, hb2⟩; have HB2 := hidD hb2; clear hb2)
  refine bodyPost_ret (v := .tuple #[.slice none 0 0, .int .i64 2]) (by simp [results, Try.results24, go_sem]) rfl ?_
  exact ⟨rfl, HB2.out⟩
set_option maxRecDepth 100000 in
set_option maxHeartbeats 1600000 in
theorem rlocator_err {c p f : Nat} (hp1 : 1 ≤ p) (hp : p ≤ 254) (hf : f ≤ 254) (r : List UInt8) (L : List Int) (hll : L.length ≤ 9223372036854775800) (h : mErr f p r L ≠ 0) (vw vl : Value) (w : World) (hc : RkAt w c p f) (hvw : SlAt w vw r) (hvl : IlAt w vl L) :
    Calls Try.prog 24 #[.pointer (some ⟨c, 0, none⟩), vw, vl] w fun e w' => e = .returned (.tuple #[.slice none 0 0, .int .i64 (mErr f p r L)]) ∧ Below w.heap.size w w' := by
  have HD : Hid (Calls Try.prog 22 #[.pointer (some ⟨c, 0, none⟩), vw, vl] w fun e w' => e = .returned (.tuple #[.slice none 0 0, .slice none 0 0, .int .i64 (mErr f p r L)]) ∧ Below w.heap.size w w') := (rdecode_any hp1 hp hf r L hll vw vl w hc hvw hvl).mono fun e w' ⟨h1, h2⟩ => by
    rcases h1 with ⟨_, h3⟩ | ⟨h3, _⟩
    · exact ⟨h3, h2⟩
    · exact absurd ((fine_iff f p r L).2 h3) h
  have hb : (mErr f p r L == 0) = false := beq_eq_false_iff_ne.2 h
  clear hc hvw hvl
  generalize mErr f p r L = E at *
  go_enter Try.func24, Try.ntmps24
  go_wp2_with (go_at_call 22; refine HD.out.mono ?_; rintro e w2 ⟨rfl, hb2⟩; have HB2 := hidD hb2; clear hb2)
  refine bodyPost_ret (v := .tuple #[.slice none 0 0, .int .i64 E]) (by simp [results, Try.results24, go_sem]) rfl ?_
  exact ⟨rfl, HB2.out⟩
set_option maxRecDepth 100000 in
set_option maxHeartbeats 3200000 in
theorem rlocator_ok {c p f : Nat} (hp1 : 1 ≤ p) (hp : p ≤ 254) (hf : f ≤ 254) (r : List UInt8) (L : List Int) (hll : L.length ≤ 9223372036854775800) (h : Fine f p r L) (vw vl : Value) (w : World) (hc : RkAt w c p f) (hvw : SlAt w vw r) (hvl : IlAt w vl L) :
    Calls Try.prog 24 #[.pointer (some ⟨c, 0, none⟩), vw, vl] w fun e w' => ∃ u, e = .returned (.tuple #[u, .int .i64 0]) ∧ SlAt w' u (dLoc f p r L) ∧ Below w.heap.size w w' := by
  have HD : Hid (Calls Try.prog 22 #[.pointer (some ⟨c, 0, none⟩), vw, vl] w fun e w' => ∃ a k u, e = .returned (.tuple #[.slice a (r.length - p) k, u, .int .i64 0]) ∧ IlAt w' u (difTo (dWord f p r L) r r.length) ∧ Below w.heap.size w w') := (rdecode_any hp1 hp hf r L hll vw vl w hc hvw hvl).mono fun e w' ⟨h1, h2⟩ => by
    rcases h1 with ⟨h3, _⟩ | ⟨_, a, k, u, h3, _, h4⟩
    · exact absurd ((fine_iff f p r L).2 h) h3
    · exact ⟨a, k, u, h3, h4, h2⟩
  have HVL := hidD hvl
  have HFI := hidD refField_any
  have HAL : Hid (∀ (w' : World) o, Below w'.heap.size w' (w'.alloc o)) := fun w' o => (Below.refl _ _).alloc (Nat.le_refl _) o
  have HS1 : Hid (∀ w' : World, SlAt (w'.alloc (.cells #[.int .u8 1] (5 : TypeId))) (.slice (some ⟨w'.heap.size, 0, none⟩) 1 1) [1]) := fun w' => sl_new w' [1] _ 1 rfl rfl (by omega)
  have HS2 : Hid (∀ (w' : World) (x : UInt8), SlAt (w'.alloc (.cells #[.int .u8 1, .int .u8 (x.toNat : Int)] (5 : TypeId))) (.slice (some ⟨w'.heap.size, 0, none⟩) 2 2) [1, x]) := fun w' x => sl_new w' [1, x] _ 2 rfl rfl (by omega)
  have HX : Hid (∀ (b : Nat) (n : Int) (w : World), RfAt w b 29 2 → Calls Try.prog 43 #[.pointer (some ⟨b, 0, none⟩), .int .i64 n] w fun e w' => e = .returned (.int .u8 ((pwI 29 2 n).toNat : Int)) ∧ w' = w) := fun b n w hf => refExp_any n w hf
  have HLS := hidD (loc_same hp1 hp h)
  have hn2 := h.l2
  have HDL := hidD (dif_len (dWord f p r L) r r.length)
  have HA1 : Hid (∀ (x : Int) v w', IlAt w' v (difTo (dWord f p r L) r r.length) → Calls Try.prog 48 #[v, .int .i64 x] w' fun e w2 => e = .returned (.bool (decide (x ∈ difTo (dWord f p r L) r r.length))) ∧ Below w'.heap.size w' w2) := fun x v w' h => rkAmong_any _ (by have := HDL.out; omega) x v w' h
  have HA2 : Hid (∀ (x : Int) v w', IlAt w' v L → Calls Try.prog 48 #[v, .int .i64 x] w' fun e w2 => e = .returned (.bool (decide (x ∈ L))) ∧ Below w'.heap.size w' w2) := fun x v w' h => rkAmong_any _ (by omega) x v w' h
  obtain ⟨⟨aw, cw, rfl, hcw1, hcw2⟩, hwb⟩ := hvw
  clear hc h hwb
  generalize hDF : difTo (dWord f p r L) r r.length = DF at *
  generalize dLoc f p r L = LC at *
  clear hDF
  have HTM : Hid (∀ (b k : Nat) vp vq w', k < r.length → RfAt w' b 29 2 → SlAt w' vp (lcTo r.length (fun i => decide ((i : Int) ∈ DF) || decide ((i : Int) ∈ L)) k) → SlAt w' vq [1, pwI 29 2 ((r.length : Int) - 1 - (k : Int))] → Calls Try.prog 45 #[.pointer (some ⟨b, 0, none⟩), vp, vq] w' fun e w2 => ∃ v, e = .returned v ∧ SlAt w2 v (mulS 29 (lcTo r.length (fun i => decide ((i : Int) ∈ DF) || decide ((i : Int) ∈ L)) k) [1, pwI 29 2 ((r.length : Int) - 1 - (k : Int))]) ∧ Below w'.heap.size w' w2) := fun b k vp vq w' hk hf h1 h2 => by
    have hl := lc_len r.length (fun i => decide ((i : Int) ∈ DF) || decide ((i : Int) ∈ L)) k
    exact refTimes_all _ _ (by simp; omega) vp vq w' hf h1 h2
  have HLN : Hid (∀ k, lcTo r.length (fun i => decide ((i : Int) ∈ DF) || decide ((i : Int) ∈ L)) (k + 1) = if (decide ((k : Int) ∈ DF) || decide ((k : Int) ∈ L)) = true then mulS 29 (lcTo r.length (fun i => decide ((i : Int) ∈ DF) || decide ((i : Int) ∈ L)) k) [1, pwI 29 2 ((r.length : Int) - 1 - (k : Int))] else lcTo r.length (fun i => decide ((i : Int) ∈ DF) || decide ((i : Int) ∈ L)) k) := fun k => rfl
  have HL0 : Hid (lcTo r.length (fun i => decide ((i : Int) ∈ DF) || decide ((i : Int) ∈ L)) 0 = [1]) := rfl
  generalize hB : lcTo r.length (fun i => decide ((i : Int) ∈ DF) || decide ((i : Int) ∈ L)) = LT at *
  clear hB
  generalize r.length = n at *
  generalize n - p = np at *
  go_enter Try.func24, Try.ntmps24
  go_wp2_with (first
    | (go_at_call 22; refine HD.out.mono ?_; rintro e w2 ⟨a2, k2, u2, rfl, hi2, hb2⟩; have HI2 := hidD hi2; have HB2 := hidD hb2; clear hi2 hb2)
    | (go_at_call 37; refine (HFI.out _).mono ?_; rintro e w3 ⟨b, rfl, _, hf3, hb3⟩; have HF3 := hidD hf3; have HI3 := hidD (HI2.out.next hb3); have HB3 := hidD (Below.next HB2.out hb3); clear hf3 hb3))
  have HG0 : Hid (SlAt (w3.alloc (.cells #[.int .u8 1] (5 : TypeId))) (.slice (some ⟨w3.heap.size, 0, none⟩) 1 1) (LT 0)) := by show SlAt _ _ _; rw [HL0.out]; exact HS1.out w3
  have HB4 : Hid (Below w3.heap.size w3 (w3.alloc (.cells #[.int .u8 1] (5 : TypeId)))) := HAL.out _ _
  go_loopw [12, 13] (fun o i wr => ∃ k : Nat, k ≤ n ∧ i = .int .i64 k ∧ SlAt wr o (LT k) ∧ Below w3.heap.size w3 wr) (fun _ i _ => n - (intOf i).toNat)
  case atStart => exact ⟨0, Nat.zero_le _, rfl, HG0.out, HB4.out⟩
  case round =>
    obtain ⟨k, hk, rfl, hso, hbel⟩ := hrel
    have HSO := hidD hso
    have HBW := hidD hbel
    by_cases hlt : k < n
    · have hlti : (k : Int) < n := by omega
      have HNK := hidD (HLN.out k)
      have HTK := hidD (fun b vp vq w' => HTM.out b k vp vq w' hlt)
      have HF5 := hidD (HF3.out.next hbel)
      have HI5 := hidD (HI3.out.next hbel)
      have HL5 := hidD (HVL.out.next (Below.next HB3.out hbel))
      have HC1 := hidD (fun w' h => HA1.out (k : Int) u2 w' h)
      have HC2 := hidD (fun w' h => HA2.out (k : Int) vl w' h)
      clear hso hbel
      by_cases h1 : (k : Int) ∈ DF
      · rw [decide_eq_true h1] at HC1 HNK
        rw [if_pos (by simp)] at HNK
        clear h1
        go_wp2_with (first
          | (go_at_call 48; refine (HC1.out _ HI5.out).mono ?_; rintro e w5 ⟨rfl, hb5⟩; have HF6 := hidD (HF5.out.next hb5); have HS6 := hidD (HSO.out.next hb5); have HB5 := hidD (Below.next HBW.out hb5); clear hb5)
          | (go_at_call 43; refine (HX.out _ _ _ HF6.out).mono ?_; rintro e w6 ⟨rfl, hw6⟩; subst w6)
          | (go_at_call 45; refine (HTK.out _ _ _ _ (HF6.out.next (HAL.out _ _)) (HS6.out.next (HAL.out _ _)) (HS2.out _ _)).mono ?_; rintro e w7 ⟨v7, rfl, hs7, hb7⟩; have HS7 := hidD hs7; have HB7 := hidD (Below.next (Below.next HB5.out (HAL.out _ _)) hb7); clear hs7 hb7))
        go_roundw
        case rel => exact ⟨k + 1, by omega, by go_num, by rw [HNK.out]; exact HS7.out, HB7.out⟩
        case measure => simp [intOf]; omega
      · rw [decide_eq_false h1] at HC1 HNK
        clear h1
        by_cases h2 : (k : Int) ∈ L
        · rw [decide_eq_true h2] at HC2 HNK
          rw [if_pos (by simp)] at HNK
          clear h2
          go_wp2_with (first
            | (go_at_call 48; refine (HC1.out _ HI5.out).mono ?_; rintro e w5 ⟨rfl, hb5⟩; have HF6 := hidD (HF5.out.next hb5); have HS6 := hidD (HSO.out.next hb5); have HL6 := hidD (HL5.out.next hb5); have HB5 := hidD (Below.next HBW.out hb5); clear hb5 HC1)
            | (go_at_call 48; refine (HC2.out _ HL6.out).mono ?_; rintro e w5b ⟨rfl, hb5⟩; have HF6b := hidD (HF6.out.next hb5); have HS6b := hidD (HS6.out.next hb5); have HB5b := hidD (Below.next HB5.out hb5); clear hb5)
            | (go_at_call 43; refine (HX.out _ _ _ HF6b.out).mono ?_; rintro e w6 ⟨rfl, hw6⟩; subst w6)
            | (go_at_call 45; refine (HTK.out _ _ _ _ (HF6b.out.next (HAL.out _ _)) (HS6b.out.next (HAL.out _ _)) (HS2.out _ _)).mono ?_; rintro e w7 ⟨v7, rfl, hs7, hb7⟩; have HS7 := hidD hs7; have HB7 := hidD (Below.next (Below.next HB5b.out (HAL.out _ _)) hb7); clear hs7 hb7))
          go_roundw
          case rel => exact ⟨k + 1, by omega, by go_num, by rw [HNK.out]; exact HS7.out, HB7.out⟩
          case measure => simp [intOf]; omega
        · rw [decide_eq_false h2] at HC2 HNK
          rw [if_neg (by simp)] at HNK
          clear h2
          go_wp2_with (first
            | (go_at_call 48; refine (HC1.out _ HI5.out).mono ?_; rintro e w5 ⟨rfl, hb5⟩; have HS6 := hidD (HSO.out.next hb5); have HL6 := hidD (HL5.out.next hb5); have HB5 := hidD (Below.next HBW.out hb5); clear hb5 HC1)
            | (go_at_call 48; refine (HC2.out _ HL6.out).mono ?_; rintro e w5b ⟨rfl, hb5⟩; have HS6b := hidD (HS6.out.next hb5); have HB5b := hidD (Below.next HB5.out hb5); clear hb5))
          go_roundw
          case rel => exact ⟨k + 1, by omega, by go_num, by rw [HNK.out]; exact HS6b.out, HB5b.out⟩
          case measure => simp [intOf]; omega
    · obtain rfl : n = k := by omega
      have HSX : Hid (SlAt wr u12 LC) := by
        show SlAt _ _ _
        rw [← HLS.out]; exact HSO.out
      obtain ⟨a12, c12, h12, _, _⟩ := HSO.out.shape
      subst h12
      clear hso hbel
      go_wp2_with fail
      refine bodyPost_ret (v := .tuple #[.slice a12 (LT n).length c12, .int .i64 0]) (by simp [results, Try.results24, go_sem]) rfl ?_
      exact ⟨_, rfl, HSX.out, Below.next HB3.out HBW.out⟩
end Go.Proofs.Ytdpkeffkpecmjaa
/- RsDecodes. -/
namespace Go.Proofs.Ytdpkeffkpecmjaa
open Go.RowKit
set_option linter.unusedVariables false

set_option maxRecDepth 100000 in
/-- Numbers that are put behind a row of one's own. -/
theorem wpList_append_il {ops : Array Oper} {rest : List Oper} {o : Oper} {a : Act} {Q : Exit → Act → World → Prop} {w : World} (hgd : o.guard = none) (s x : Operand)
    (ho : o.op = .call { callee := .builtin .append, args := #[s, x], argTypes := #[38, 38] }) (base : Nat) (v : Value) (n : Nat) (xs : List Value)
    (hs : a.eval s = v) (hown : w.ownsRow base 3 1 v n xs) (sl : Value) (L : List Int) (hx : a.eval x = sl) (hsrc : IlAt w sl L) (hnil : ∀ k c, sl = .slice none k c → c = 0) (hl : (n + L.length) * 8 ≤ 140737488355328) (hbase : base ≤ w.heap.size)
    (h : ∀ v' w', w'.ownsRow base 3 1 v' (n + L.length) (xs ++ L.map encI) → w.grownBy w' v.ownBlock → wpList Try.prog ops Q rest (a.put o.dst v') w') : wpList Try.prog ops Q (o :: rest) a w := by
  obtain ⟨i0, hi, hz0, hz1, hz2⟩ := info_parts Try.info3
  obtain ⟨ad, cap, rfl, hc1, hc2, hcell⟩ := hsrc
  cases ad with
  | none =>
    have hc0 := hnil _ _ rfl
    have hL0 : L = [] := List.length_eq_zero_iff.1 (by omega)
    subst hL0 hc0
    refine wpList_append_own_none hgd s x 38 ho base 3 i0 1 Try.underlying38 hi v n xs hs hown hx ?_
    exact h v w (by simpa using hown) ⟨rfl, rfl, rfl, Nat.le_refl _, fun _ _ _ => rfl⟩
  | some ad =>
    refine wpList_append_own w hgd s x 38 ho base 3 i0 (.int .i64 0) 1 8 Try.underlying38 hi hz0 hz1 hz2 rfl (by decide) v n xs hs hown ad L.length cap (L.map encI) hx (by simp) (fun j u hu => ?_) (fun u hu => by obtain ⟨y, _, rfl⟩ := List.mem_map.1 hu; rfl) (by unfold maxLen; omega) hl hbase ?_
    · rw [List.getElem?_map] at hu
      cases hj : L[j]? with
      | none => rw [hj] at hu; cases hu
      | some y =>
        rw [hj] at hu
        have hlt := (List.getElem?_eq_some_iff.1 hj).1
        obtain ⟨g, o', e1, _, e2⟩ := hcell j hlt
        injection e1 with e1
        subst e1
        rw [Go.WideShapes.add_plain, e2, List.getD_eq_getElem?_getD, hj]
        exact hu
    · intro v' w' h1 h2 _
      exact h v' w' h1 h2
/-- A call of a code's that answers bytes, places and an error. -/
def Ans3 (K : Option Addr → Option Addr → World → Prop) (sel : Bool) (fn : Nat) (l : List UInt8) (L : List Int) (D : List UInt8) (P : List Int) (E : Int) : Prop := ∀ pc pr w v vl, K pc pr w → SlAt w v l → IlAt w vl L → Calls Try.prog fn #[.pointer (if sel then pc else pr), v, vl] w fun e w' => ∃ a k u, e = .returned (.tuple #[.slice a D.length k, u, .int .i64 E]) ∧ SlAt w' (.slice a D.length k) D ∧ IlAt w' u P ∧ Below w.heap.size w w'
/-- A call of a code's that answers bytes and an error. -/
def Ans4 (K : Option Addr → Option Addr → World → Prop) (sel : Bool) (fn : Nat) (l : List UInt8) (L : List Int) (D : List UInt8) (E : Int) : Prop := ∀ pc pr w v vl, K pc pr w → SlAt w v l → IlAt w vl L → Calls Try.prog fn #[.pointer (if sel then pc else pr), v, vl] w fun e w' => ∃ a k, e = .returned (.tuple #[.slice a D.length k, .int .i64 E]) ∧ SlAt w' (.slice a D.length k) D ∧ Below w.heap.size w w'
/-- What lies in memory while the law looks. -/
structure Dcs (K : Option Addr → Option Addr → World → Prop) (pc pr : Option Addr) (vd vw v1 v2 : Value) (data : List UInt8) (L : List Int) (w : World) : Prop where
  k : K pc pr w
  sd : SlAt w vd data
  sw : IlAt w vw L
  s1 : SlAt w v1 data
  s2 : IlAt w v2 L
theorem Dcs.next {K : Option Addr → Option Addr → World → Prop} (hK : ∀ pc pr w w', K pc pr w → Below w.heap.size w w' → K pc pr w') {pc pr : Option Addr} {vd vw v1 v2 : Value} {data : List UInt8} {L : List Int} {w w' : World} (h : Dcs K pc pr vd vw v1 v2 data L w) (hb : Below w.heap.size w w') : Dcs K pc pr vd vw v1 v2 data L w' := ⟨hK _ _ _ _ h.k hb, h.sd.next hb, h.sw.next hb, h.s1.next hb, h.s2.next hb⟩
theorem il_shape {w : World} {v : Value} {l : List Int} (h : IlAt w v l) : ∃ a c, v = .slice a l.length c := by
  obtain ⟨a, c, h, _⟩ := h
  exact ⟨a, c, h⟩
set_option maxRecDepth 100000 in
set_option maxHeartbeats 6400000 in
theorem decodes_of (K : Option Addr → Option Addr → World → Prop) (hK : ∀ pc pr w w', K pc pr w → Below w.heap.size w w' → K pc pr w') (p f : Int) (word : List UInt8) (L : List Int) (D X : List UInt8) (P : List Int) (E : Int) (hwl : word.length ≤ 140737488355200) (hll : L.length * 8 ≤ 140737488355200) (hpl : P.length ≤ 255)
    (hbo : ∀ w, Calls Try.prog 9 #[.int .i64 p, .int .i64 f] w fun e w' => ∃ pc pr, e = .returned (.tuple #[.pointer pc, .pointer pr, .bool true]) ∧ K pc pr w' ∧ Below w.heap.size w w')
    (hd1 : Ans3 K true 21 word L D P E) (hd2 : Ans3 K false 22 word L D P E) (hl1 : Ans4 K true 23 word L X E) (hl2 : Ans4 K false 24 word L X E)
    (vd vw : Value) (w : World) (hvd : SlAt w vd word) (hvw : IlAt w vw L) (hnil : ∀ k c, vw = .slice none k c → c = 0) : Calls Try.prog 4 #[.int .i64 p, .int .i64 f, vd, vw] w fun e w' => e = .returned (.bool true) ∧ Below w.heap.size w w' := by
  have HK := hidD hK
  have HVD := hidD hvd
  have HVW := hidD hvw
  have HBO := hidD hbo
  have HE1 := hidD (fun pc pr w v vl h1 h2 h3 => hd1 pc pr w v vl h1 h2 h3)
  have HE2 := hidD (fun pc pr w v vl h1 h2 h3 => hd2 pc pr w v vl h1 h2 h3)
  have HS1 := hidD (fun pc pr w v vl h1 h2 h3 => hl1 pc pr w v vl h1 h2 h3)
  have HS2 := hidD (fun pc pr w v vl h1 h2 h3 => hl2 pc pr w v vl h1 h2 h3)
  simp only [if_true, if_false, Bool.false_eq_true] at HE1 HE2 HS1 HS2
  have HA := hidD alive_any
  have HO1 := hidD (fun w v h => own_gen word hwl v w h)
  have HAL : Hid (∀ (w' : World) o, Below w'.heap.size w' (w'.alloc o)) := fun w' o => (Below.refl _ _).alloc (Nat.le_refl _) o
  have HOW0 : Hid (∀ w' : World, (w'.alloc (.cells #[] (3 : TypeId))).ownsRow w'.heap.size 3 1 (.slice (some ⟨w'.heap.size, 0, none⟩) 0 0) 0 []) := fun w' => full_row (Nat.le_refl _) rfl (by unfold maxLen; omega) (heap_alloc_last _ _)
  have HSA : Hid (∀ (L : List UInt8) wA u v, SlAt wA u L → SlAt wA v L → Calls Try.prog 16 #[u, v] wA fun e w' => e = .returned (.bool true) ∧ Below wA.heap.size wA w') := fun L wA u v hu hv => by
    have := same_any L L u v wA hu.by' hv.by'
    rw [decide_eq_true rfl] at this; exact this
  have HIA : Hid (∀ wA u v, IlAt wA u P → IlAt wA v P → Calls Try.prog 25 #[u, v] wA fun e w' => e = .returned (.bool true) ∧ Below wA.heap.size wA w') := fun wA u v hu hv => by
    have := ints_any P P (by omega) u v wA hu hv
    rw [decide_eq_true rfl] at this; exact this
  have HIB : Hid (∀ wA u v, IlAt wA u L → IlAt wA v L → Calls Try.prog 25 #[u, v] wA fun e w' => e = .returned (.bool true) ∧ Below wA.heap.size wA w') := fun wA u v hu hv => by
    have := ints_any L L (by omega) u v wA hu hv
    rw [decide_eq_true rfl] at this; exact this
  have hEE : (E == E) = true := beq_self_eq_true _
  obtain ⟨⟨ad, cd, rfl, _, _⟩, _⟩ := hvd
  obtain ⟨aw, cw, rfl⟩ := il_shape hvw
  have HNL := hidD hnil
  clear hK hbo hd1 hd2 hl1 hl2 hwl hnil hvw
  generalize D.length = DN at *
  generalize X.length = XN at *
  generalize hWN : word.length = WN at *
  generalize hLN : L.length = LN at *
  have HLN := hidD hLN
  clear hWN hLN
  go_enter Try.func4, Try.ntmps4
  go_wp2_with (first
    | (go_at_call 9; refine (HBO.out _).mono ?_; rintro e w1 ⟨pc, pr, rfl, hk, hb⟩; have HK1 := hidD hk; have HB1 := hidD hb; clear hb hk)
    | (go_at_call 10; refine (HA.out _).mono ?_; rintro e w2 ⟨rfl, hb⟩; have HK2 := hidD (HK.out _ _ _ _ HK1.out hb); have HB2 := hidD (Below.next HB1.out hb); clear hb HK1 HB1)
    | (go_at_call 11; refine (HO1.out _ _ (HVD.out.next HB2.out)).mono ?_; rintro e w3 ⟨a3, k3, rfl, hs, hb⟩; have HK3 := hidD (HK.out _ _ _ _ HK2.out hb); have HS3 := hidD hs; have HB3 := hidD (Below.next HB2.out hb); clear hb hs HK2 HB2)
    | (at_builtin; refine wpList_append_il rfl _ _ rfl w3.heap.size (.slice (some ⟨w3.heap.size, 0, none⟩) 0 0) 0 [] rfl (HOW0.out w3) (.slice aw LN cw) L rfl ((HVW.out.next HB3.out).next (HAL.out _ _)) HNL.out (by rw [HLN.out]; omega) (by simp) ?_; intro v4 w4 hown4 hg4; rw [HLN.out, Nat.zero_add, List.nil_append] at hown4; obtain ⟨a4, k4, hv4⟩ := row_shape hown4; subst hv4; have hb4 : Below w3.heap.size w3 w4 := row_grown (HOW0.out w3) (HAL.out _ _) hg4 (by simp); have hi4 : IlAt w4 (.slice a4 LN k4) L := il_of_own (base := w3.heap.size) (by rw [HLN.out]; exact hown4); have HB4 := hidD (Below.next HB3.out hb4); have HX4 : Hid (Dcs K pc pr (.slice ad WN cd) (.slice aw LN cw) (.slice a3 WN k3) (.slice a4 LN k4) word L w4) := ⟨HK.out _ _ _ _ HK3.out hb4, HVD.out.next HB4.out, HVW.out.next HB4.out, HS3.out.next hb4, hi4⟩; clear hown4 hg4 hb4 hi4 HK3 HB3 HS3)
    | (go_at_call 21; refine (HE1.out _ _ _ _ _ HX4.out.k HX4.out.s1 HX4.out.s2).mono ?_; rintro e w5 ⟨a5, k5, u5, rfl, hs, hi, hb⟩; have HX5 := hidD (HX4.out.next HK.out hb); have HP5 := hidD hs; have HI5 := hidD hi; have HB5 := hidD (Below.next HB4.out hb); clear hb hs hi HX4 HB4)
    | (go_at_call 22; refine (HE2.out _ _ _ _ _ HX5.out.k HX5.out.sd HX5.out.sw).mono ?_; rintro e w6 ⟨a6, k6, u6, rfl, hs, hi, hb⟩; have HX6 := hidD (HX5.out.next HK.out hb); have HP6 := hidD (HP5.out.next hb); have HI6 := hidD (HI5.out.next hb); have HQ6 := hidD hs; have HJ6 := hidD hi; have HB6 := hidD (Below.next HB5.out hb); clear hb hs hi HX5 HB5 HP5 HI5)
    | (go_at_call 23; refine (HS1.out _ _ _ _ _ HX6.out.k HX6.out.s1 HX6.out.s2).mono ?_; rintro e w7 ⟨a7, k7, rfl, hs, hb⟩; have HX7 := hidD (HX6.out.next HK.out hb); have HP7 := hidD (HP6.out.next hb); have HI7 := hidD (HI6.out.next hb); have HQ7 := hidD (HQ6.out.next hb); have HJ7 := hidD (HJ6.out.next hb); have HT7 := hidD hs; have HB7 := hidD (Below.next HB6.out hb); clear hb hs HX6 HB6 HP6 HQ6 HI6 HJ6)
    | (go_at_call 24; refine (HS2.out _ _ _ _ _ HX7.out.k HX7.out.sd HX7.out.sw).mono ?_; rintro e w8 ⟨a8, k8, rfl, hs, hb⟩; have HX8 := hidD (HX7.out.next HK.out hb); have HP8 := hidD (HP7.out.next hb); have HI8 := hidD (HI7.out.next hb); have HQ8 := hidD (HQ7.out.next hb); have HJ8 := hidD (HJ7.out.next hb); have HT8 := hidD (HT7.out.next hb); have HU8 := hidD hs; have HB8 := hidD (Below.next HB7.out hb); clear hb hs HX7 HB7 HP7 HQ7 HI7 HJ7 HT7)
    | (go_at_call 16; refine (HSA.out D _ _ _ HP8.out HQ8.out).mono ?_; rintro e w9 ⟨rfl, hb⟩; have HX9 := hidD (HX8.out.next HK.out hb); have HI9 := hidD (HI8.out.next hb); have HJ9 := hidD (HJ8.out.next hb); have HT9 := hidD (HT8.out.next hb); have HU9 := hidD (HU8.out.next hb); have HB9 := hidD (Below.next HB8.out hb); clear hb HX8 HB8 HP8 HQ8 HI8 HJ8 HT8 HU8)
    | (go_at_call 25; refine (HIA.out _ _ _ HI9.out HJ9.out).mono ?_; rintro e wA ⟨rfl, hb⟩; have HXA := hidD (HX9.out.next HK.out hb); have HTA := hidD (HT9.out.next hb); have HUA := hidD (HU9.out.next hb); have HBA := hidD (Below.next HB9.out hb); clear hb HX9 HB9 HI9 HJ9 HT9 HU9)
    | (go_at_call 16; refine (HSA.out X _ _ _ HTA.out HUA.out).mono ?_; rintro e wB ⟨rfl, hb⟩; have HXB := hidD (HXA.out.next HK.out hb); have HBB := hidD (Below.next HBA.out hb); clear hb HXA HBA HTA HUA)
    | (go_at_call 16; refine (HSA.out word _ _ _ HXB.out.s1 HXB.out.sd).mono ?_; rintro e wC ⟨rfl, hb⟩; have HXC := hidD (HXB.out.next HK.out hb); have HBC := hidD (Below.next HBB.out hb); clear hb HXB HBB)
    | (go_at_call 25; refine (HIB.out _ _ _ HXC.out.s2 HXC.out.sw).mono ?_; rintro e wD ⟨rfl, hb⟩; have HBD := hidD (Below.next HBC.out hb); clear hb HXC HBC))
  go_ret
  exact ⟨rfl, HBD.out⟩
end Go.Proofs.Ytdpkeffkpecmjaa
/- RsDecodes, whole. -/
namespace Go.Proofs.Ytdpkeffkpecmjaa
open Go.RowKit
set_option linter.unusedVariables false

theorem SlAt.again {w : World} {a : Option Addr} {n k : Nat} {l : List UInt8} (h : SlAt w (.slice a n k) l) : n = l.length := by
  obtain ⟨a', c', he, _⟩ := h.shape
  injection he
theorem rsDecodes_err (p f : Nat) (h1 : 1 ≤ p) (h2 : p ≤ 254) (h3 : f ≤ 254) (word : List UInt8) (L : List Int) (he : mErr f p word L ≠ 0) (hwl : word.length ≤ 140737488355200) (hll : L.length * 8 ≤ 140737488355200) (vd vw : Value) (w : World) (hvd : SlAt w vd word) (hvw : IlAt w vw L) (hnil : ∀ k c, vw = .slice none k c → c = 0) : Calls Try.prog 4 #[.int .i64 p, .int .i64 f, vd, vw] w fun e w' => e = .returned (.bool true) ∧ Below w.heap.size w w' := by
  refine decodes_of (Two p f) Two.next p f word L [] [] [] (mErr f p word L) hwl hll (by simp) ?_ ?_ ?_ ?_ ?_ vd vw w hvd hvw hnil
  · intro w
    exact (both_ok p f h1 h2 h3 w).mono fun e w' ⟨c, r, h1, h2, h3, h4⟩ => ⟨_, _, h1, ⟨c, r, rfl, rfl, h2, h3⟩, h4⟩
  · rintro pc pr w v vl ⟨c, r, rfl, rfl, hc, hr⟩ hs hi
    exact (decode_err h1 h2 h3 word L (by omega) he v vl w hc hs hi).mono fun e w' ⟨a, b⟩ => ⟨none, 0, _, a, SlAt.nil _, IlAt.nil _, b⟩
  · rintro pc pr w v vl ⟨c, r, rfl, rfl, hc, hr⟩ hs hi
    exact (rdecode_any h1 h2 h3 word L (by omega) v vl w hr hs hi).mono fun e w' ⟨a, b⟩ => by
      rcases a with ⟨_, a⟩ | ⟨a, _⟩
      · exact ⟨none, 0, _, a, SlAt.nil _, IlAt.nil _, b⟩
      · exact absurd ((fine_iff f p word L).2 a) he
  · rintro pc pr w v vl ⟨c, r, rfl, rfl, hc, hr⟩ hs hi
    exact (locator_err h1 h2 h3 word L (by omega) he v vl w hc hs hi).mono fun e w' ⟨a, b⟩ => ⟨none, 0, a, SlAt.nil _, b⟩
  · rintro pc pr w v vl ⟨c, r, rfl, rfl, hc, hr⟩ hs hi
    exact (rlocator_err h1 h2 h3 word L (by omega) he v vl w hr hs hi).mono fun e w' ⟨a, b⟩ => ⟨none, 0, a, SlAt.nil _, b⟩
theorem rsDecodes_fine (p f : Nat) (h1 : 1 ≤ p) (h2 : p ≤ 254) (h3 : f ≤ 254) (word : List UInt8) (L : List Int) (he : Fine f p word L) (hwl : word.length ≤ 140737488355200) (hll : L.length * 8 ≤ 140737488355200) (vd vw : Value) (w : World) (hvd : SlAt w vd word) (hvw : IlAt w vw L) (hnil : ∀ k c, vw = .slice none k c → c = 0) : Calls Try.prog 4 #[.int .i64 p, .int .i64 f, vd, vw] w fun e w' => e = .returned (.bool true) ∧ Below w.heap.size w w' := by
  have hl1 := he.l1
  have hl2 := he.l2
  have hdw := (fine_near h2 he).1
  have htl : ((dWord f p word L).take (word.length - p)).length = word.length - p := by rw [List.length_take]; omega
  refine decodes_of (Two p f) Two.next p f word L ((dWord f p word L).take (word.length - p)) (dLoc f p word L) (difTo (dWord f p word L) word word.length) 0 hwl hll (by have := dif_len (dWord f p word L) word word.length; omega) ?_ ?_ ?_ ?_ ?_ vd vw w hvd hvw hnil
  · intro w
    exact (both_ok p f h1 h2 h3 w).mono fun e w' ⟨c, r, h1, h2, h3, h4⟩ => ⟨_, _, h1, ⟨c, r, rfl, rfl, h2, h3⟩, h4⟩
  · rintro pc pr w v vl ⟨c, r, rfl, rfl, hc, hr⟩ hs hi
    refine (decode_ok h1 h2 h3 word L he v vl w hc hs hi).mono fun e w' ⟨g, u, a, b, d, x⟩ => ⟨some ⟨g, 0, none⟩, word.length - p, u, ?_, ?_, d, x⟩
    · rw [a, htl]
    · rw [htl]; exact SlAt.row b htl.symm (by omega)
  · rintro pc pr w v vl ⟨c, r, rfl, rfl, hc, hr⟩ hs hi
    exact (rdecode_any h1 h2 h3 word L (by omega) v vl w hr hs hi).mono fun e w' ⟨a, b⟩ => by
      rcases a with ⟨a, _⟩ | ⟨_, a, k, u, x, y, z⟩
      · exact absurd ((fine_iff f p word L).2 he) a
      · exact ⟨a, k, u, by rw [x, htl], by rw [htl]; exact y, z, b⟩
  · rintro pc pr w v vl ⟨c, r, rfl, rfl, hc, hr⟩ hs hi
    exact (locator_ok h1 h2 h3 word L he v vl w hc hs hi).mono fun e w' ⟨u, a, b, d⟩ => by
      obtain ⟨a', c', hu, _, _⟩ := b.shape
      subst hu
      exact ⟨a', c', a, b, d⟩
  · rintro pc pr w v vl ⟨c, r, rfl, rfl, hc, hr⟩ hs hi
    exact (rlocator_ok h1 h2 h3 word L (by omega) he v vl w hr hs hi).mono fun e w' ⟨u, a, b, d⟩ => by
      obtain ⟨a', c', hu, _, _⟩ := b.shape
      subst hu
      exact ⟨a', c', a, b, d⟩
theorem rsDecodes_out (p f : Int) (h : ¬ (1 ≤ p ∧ p ≤ 254 ∧ 0 ≤ f ∧ f ≤ 254)) (word : List UInt8) (L : List Int) (hwl : word.length ≤ 140737488355200) (hll : L.length * 8 ≤ 140737488355200) (vd vw : Value) (w : World) (hvd : SlAt w vd word) (hvw : IlAt w vw L) (hnil : ∀ k c, vw = .slice none k c → c = 0) : Calls Try.prog 4 #[.int .i64 p, .int .i64 f, vd, vw] w fun e w' => e = .returned (.bool true) ∧ Below w.heap.size w w' := by
  refine decodes_of (fun pc pr _ => pc = none ∧ pr = none) (fun _ _ _ _ h _ => h) p f word L [] [] [] 2 hwl hll (by simp) ?_ ?_ ?_ ?_ ?_ vd vw w hvd hvw hnil
  · intro w
    exact (both_out p f h w).mono fun e w' ⟨a, b⟩ => ⟨none, none, a, ⟨rfl, rfl⟩, b⟩
  · rintro pc pr w v vl ⟨rfl, rfl⟩ hs hi
    exact (decode_nil v vl w).mono fun e w' ⟨a, b⟩ => ⟨none, 0, _, a, SlAt.nil _, IlAt.nil _, b⟩
  · rintro pc pr w v vl ⟨rfl, rfl⟩ hs hi
    exact (rdecode_nil v vl w).mono fun e w' ⟨a, b⟩ => ⟨none, 0, _, a, SlAt.nil _, IlAt.nil _, b⟩
  · rintro pc pr w v vl ⟨rfl, rfl⟩ hs hi
    exact (locator_nil v vl w).mono fun e w' ⟨a, b⟩ => ⟨none, 0, a, SlAt.nil _, b⟩
  · rintro pc pr w v vl ⟨rfl, rfl⟩ hs hi
    exact (rlocator_nil v vl w).mono fun e w' ⟨a, b⟩ => ⟨none, 0, a, SlAt.nil _, b⟩
theorem rsDecodes_any (p f : Int) (word : List UInt8) (L : List Int) (hwl : word.length ≤ 140737488355200) (hll : L.length * 8 ≤ 140737488355200) (vd vw : Value) (w : World) (hvd : SlAt w vd word) (hvw : IlAt w vw L) (hnil : ∀ k c, vw = .slice none k c → c = 0) : Calls Try.prog 4 #[.int .i64 p, .int .i64 f, vd, vw] w fun e w' => e = .returned (.bool true) ∧ Below w.heap.size w w' := by
  by_cases h : 1 ≤ p ∧ p ≤ 254 ∧ 0 ≤ f ∧ f ≤ 254
  · obtain ⟨P, rfl⟩ : ∃ P : Nat, p = P := ⟨p.toNat, by omega⟩
    obtain ⟨F, rfl⟩ : ∃ F : Nat, f = F := ⟨f.toNat, by omega⟩
    by_cases he : mErr F P word L = 0
    · exact rsDecodes_fine P F (by omega) (by omega) (by omega) word L ((fine_iff F P word L).1 he) hwl hll vd vw w hvd hvw hnil
    · exact rsDecodes_err P F (by omega) (by omega) (by omega) word L he hwl hll vd vw w hvd hvw hnil
  · exact rsDecodes_out p f h word L hwl hll vd vw w hvd hvw hnil
end Go.Proofs.Ytdpkeffkpecmjaa
