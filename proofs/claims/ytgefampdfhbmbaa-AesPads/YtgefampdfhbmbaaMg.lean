/- Texts of one proof, one behind the other. -/
import Derived.Test.YtgefampdfhbmbaaAs7
import Derived.Test.YtgefampdfhbmbaaMf
import Derived.Laws.Slices
/- What the document's Steps and Encrypt answer. -/
namespace Go.Proofs.Ytgefampdfhbmbaa
open Go.RowKit
set_option linter.unusedVariables false

theorem RcAt.bx {w : World} {b n : Nat} {key : Nat → UInt8} (h : RcAt w b n key) : ∃ gb cb, BxAt w b gb cb := by
  obtain ⟨gw, cw, gb, cb, h0, h1, h2, h3, h4, h5, h6, h7⟩ := h
  exact ⟨gb, cb, h2, h4, h5, h7⟩
theorem RcAt.r {w : World} {b n : Nat} {key : Nat → UInt8} (h : RcAt w b n key) : w.cell? ⟨b, 1, none⟩ = some (.int .i64 ((n + 6 : Nat) : Int)) := by
  obtain ⟨gw, cw, gb, cb, h0, h1, h2, h3, h4, h5, h6, h7⟩ := h
  exact h1
theorem RcAt.lt {w : World} {b n : Nat} {key : Nat → UInt8} (h : RcAt w b n key) : b < w.heap.size := by
  obtain ⟨gw, cw, gb, cb, h0, h1, h2, h3, h4, h5, h6, h7⟩ := h
  exact h5
theorem own_keep {w w' : World} {B e sz n : Nat} {v : Value} {xs : List Value} (h : w.ownsRow B e sz v n xs) (hk : ∀ g C, B ≤ g → w.heap[g]? = some (.cells C e (0, 0)) → w'.heap[g]? = w.heap[g]?) : w'.ownsRow B e sz v n xs := by
  refine ⟨h.1, ?_⟩
  rcases h.2 with h0 | ⟨g, cap, cur, rfl, hb, hg, h3⟩
  · exact .inl h0
  · exact .inr ⟨g, cap, cur, rfl, hb, (hk g cur hb hg).trans hg, h3⟩
theorem own_mono {w : World} {B B' e sz n : Nat} {v : Value} {xs : List Value} (h : w.ownsRow B e sz v n xs) (hB : B' ≤ B) : w.ownsRow B' e sz v n xs := by
  refine ⟨h.1, ?_⟩
  rcases h.2 with h0 | ⟨g, cap, cur, rfl, hb, h3⟩
  · exact .inl h0
  · exact .inr ⟨g, cap, cur, rfl, Nat.le_trans hB hb, h3⟩
theorem But.setRow {g : Nat} {a b : World} (h : But g a b) (C : Array Value) : But g a (b.setRow g C) := ⟨below_setRow h.bel (Nat.le_refl _) _, fun i hi hn => (setRow_other _ _ _ _ hn).trans (h.rest i hi hn)⟩
theorem own_but {w w' : World} {B e sz n g : Nat} {v : Value} {xs C : _} {t : TypeId} {x : Nat × Nat} (h : w.ownsRow B e sz v n xs) (hb : But g w w') (hg : w.heap[g]? = some (.cells C t x)) (hn : e ≠ t) : w'.ownsRow B e sz v n xs := own_keep h fun g' C' _ hg' => hb.rest g' (row_lt hg') fun he => by
  subst he
  rw [hg'] at hg
  cases hg
  exact hn rfl
theorem own_noneq {w : World} {base e sz k b : Nat} {v : Value} {xs : List Value} {D : Array Value} {u : TypeId} {y : Nat × Nat} (h : w.ownsRow base e sz v k xs) (hb : w.heap[b]? = some (.cells D u y)) (hn : e ≠ u) : some b ≠ v.ownBlock := fun hc => by
  rcases h.2 with ⟨rfl, _⟩ | ⟨g, cap, cur, rfl, _, hg, _⟩
  · simp [Value.ownBlock] at hc
  · simp [Value.ownBlock] at hc
    subst hc
    rw [hg] at hb
    cases hb
    exact hn rfl
theorem Try.info22 : (Try.prog.info? 22).map (fun i => (i.zero, i.size, i.bytes)) = some (some (.slice none 0 0), 1, 24) := by kernel_rfl
/-- The blocks behind so many rounds, as rows of bytes of one's own. -/
def StAt (w : World) (B : Nat) (vs : List Value) (R : Nat) (rk : Nat → Nat → UInt8) (s : Nat → UInt8) (k : Nat) : Prop := vs.length = k ∧ ∀ r, r < k → ∃ v, vs[r]? = some v ∧ w.ownsRow B 5 1 v 16 ((toL (enTo R rk s r)).map encB)
theorem StAt.keep {w w' : World} {B : Nat} {vs : List Value} {R : Nat} {rk : Nat → Nat → UInt8} {s : Nat → UInt8} {k : Nat} (h : StAt w B vs R rk s k) (hk : ∀ g C, B ≤ g → w.heap[g]? = some (.cells C (5 : TypeId) (0, 0)) → w'.heap[g]? = w.heap[g]?) : StAt w' B vs R rk s k := ⟨h.1, fun r hr => by
  obtain ⟨v, h1, h2⟩ := h.2 r hr
  exact ⟨v, h1, own_keep h2 hk⟩⟩
theorem StAt.next {w w' : World} {B : Nat} {vs : List Value} {R : Nat} {rk : Nat → Nat → UInt8} {s : Nat → UInt8} {k : Nat} (h : StAt w B vs R rk s k) (hb : Below w.heap.size w w') : StAt w' B vs R rk s k := h.keep fun g C _ hg => hb.block g (row_lt hg)
theorem StAt.push {w : World} {B : Nat} {vs : List Value} {R : Nat} {rk : Nat → Nat → UInt8} {s : Nat → UInt8} {k : Nat} (h : StAt w B vs R rk s k) {v : Value} (hv : w.ownsRow B 5 1 v 16 ((toL (enTo R rk s k)).map encB)) : StAt w B (vs ++ [v]) R rk s (k + 1) := by
  refine ⟨by rw [List.length_append, h.1]; rfl, fun r hr => ?_⟩
  by_cases he : r < k
  · obtain ⟨u, h1, h2⟩ := h.2 r he
    exact ⟨u, by rw [List.getElem?_append_left (by rw [h.1]; exact he)]; exact h1, h2⟩
  · obtain rfl : r = k := by omega
    exact ⟨v, by rw [List.getElem?_append_right (by rw [h.1]; omega), h.1, Nat.sub_self]; rfl, hv⟩
theorem StAt.first {w : World} {B : Nat} {R : Nat} {rk : Nat → Nat → UInt8} {s : Nat → UInt8} {v : Value} (hv : w.ownsRow B 5 1 v 16 ((toL (enTo R rk s 0)).map encB)) : StAt w B [v] R rk s 1 := StAt.push (k := 0) (vs := []) ⟨rfl, fun r hr => absurd hr (by omega)⟩ hv
/-- A block of sixteen bytes, as a slice. -/
theorem by_block {w : World} {g : Nat} {b : Nat → UInt8} (h : w.heap[g]? = some (.cells (bR b) (50 : TypeId) (0, 0))) : ByAt w (.slice (some ⟨g, 0, none⟩) 16 16) (toL b) := by
  refine .inr ⟨g, 0, 16, by rw [toL_len], row_lt h, fun j hj => ?_⟩
  rw [toL_len] at hj
  rw [Nat.zero_add, cell_of_row _ _ _ _ _ _ h]
  show (rowZ .u8 16 _)[j]? = _
  rw [rowZ_get .u8 16 _ j hj]
  show _ = some (Value.int .u8 ((blk (toL b) j).toNat : Int))
  rw [blk_toL hj]
set_option maxRecDepth 100000 in
theorem refSteps_nil (v : Value) (w : World) : Calls Try.prog 21 #[.pointer none, v] w fun e w' => e = .returned (.tuple #[.slice none 0 0, .int .i64 2]) ∧ w' = w := by
  go_enter Try.func21, Try.ntmps21
  go_wp2_with fail
  refine bodyPost_ret (v := .tuple #[.slice none 0 0, .int .i64 2]) (by simp [results, Try.results21, go_sem]) rfl ?_
  exact ⟨rfl, rfl⟩
set_option maxRecDepth 100000 in
theorem refSteps_no (l : List UInt8) (hl : l.length ≠ 16) (b : Nat) (v : Value) (w : World) (hv : ByAt w v l) : Calls Try.prog 21 #[.pointer (some ⟨b, 0, none⟩), v] w fun e w' => e = .returned (.tuple #[.slice none 0 0, .int .i64 91]) ∧ w' = w := by
  obtain ⟨a', cap, rfl, hsh⟩ := hv.shape
  clear hsh hv
  have e1 : ((l.length : Int) != 16) = true := by
    have : ¬ ((l.length : Int) = 16) := by omega
    simpa using this
  clear hl
  generalize l.length = LL at *
  go_enter Try.func21, Try.ntmps21
  go_wp2_with fail
  refine bodyPost_ret (v := .tuple #[.slice none 0 0, .int .i64 91]) (by simp [results, Try.results21, go_sem]) rfl ?_
  exact ⟨rfl, rfl⟩
set_option maxRecDepth 100000 in
set_option maxHeartbeats 1600000 in
theorem refSteps_any (l : List UInt8) (hl : l.length = 16) (n : Nat) (hn : n ≤ 8) (key : Nat → UInt8) (b : Nat) (v : Value) (w : World) (h : RcAt w b n key) (hv : ByAt w v l) : Calls Try.prog 21 #[.pointer (some ⟨b, 0, none⟩), v] w fun e w' => ∃ vo, e = .returned (.tuple #[vo, .int .i64 0]) ∧ Below w.heap.size w w' ∧ ∃ vs, w'.ownsRow w.heap.size 22 1 vo (n + 7) vs ∧ ∃ gs, w.heap.size ≤ gs ∧ StAt w' gs vs (n + 6) (rkS n key) (blk l) (n + 7) := by
  have HRC : Hid (∀ wr, Below w.heap.size w wr → RcAt wr b n key) := fun wr hb => h.next hb
  have HBK : Hid (∀ wr, Below w.heap.size w wr → Calls Try.prog 45 #[v] wr fun e w' => e = .returned (.agg (bR (blk l))) ∧ Below wr.heap.size wr w') := fun wr hb => refBlock_any l hl v wr (hv.next hb)
  have HAD : Hid (∀ r, r ≤ n + 6 → ∀ X wr, Below w.heap.size w wr → Calls Try.prog 46 #[.pointer (some ⟨b, 0, none⟩), .agg (bR X), .int .i64 (r : Int)] wr fun e w' => e = .returned (.agg (bR (xoB X (rkS n key r)))) ∧ Below wr.heap.size wr w') := fun r hr X wr hb => refAdd_any n hn key r hr b X wr (h.next hb)
  have HLT := hidD h.lt
  obtain ⟨a', cap, rfl, hsh⟩ := hv.shape
  clear hsh hv h
  rw [hl] at *
  generalize blk l = s at *
  clear hl
  have HNR : Hid (n + 7 = n + 6 + 1) := rfl
  rw [HNR.out]
  have hRb : n + 6 ≤ 14 := by omega
  generalize rkS n key = rk at *
  generalize hRR : n + 6 = R at *
  have HRR := hidD hRR
  clear hRR HNR
  have HAL : Hid (∀ (w' : World) o, Below w'.heap.size w' (w'.alloc o)) := fun w' o => (Below.refl _ _).alloc (Nat.le_refl _) o
  obtain ⟨hz, hsz⟩ := zero_of_info Try.zero50
  have HSZ50 := hidD hsz
  clear hsz
  have h4 : (bR (xoB s (rk 0))).size = 16 := rowZ_size _ _ _
  have h0 : (rowZ .u8 16 (fun _ => 0)).size = 16 := rowZ_size _ _ _
  have HONE : Hid ((bR (xoB s (rk 0))).all (·.oneCell') = true) := rowZ_one _ _ _
  have HI : Hid ((Try.prog.info? 50).map (·.size) = some (bR (xoB s (rk 0))).size) := by rw [h4]; exact HSZ50.out
  go_enter Try.func21, Try.ntmps21
  go_wp2_with (first
    | (go_at_call 45; refine (HBK.out _ (Below.refl _ _)).mono ?_; rintro e w1 ⟨rfl, hb1⟩; have HB1 := hidD hb1; clear hb1)
    | (go_at_call 46; refine (HAD.out 0 (Nat.zero_le _) s _ HB1.out).mono ?_; rintro e w2 ⟨rfl, hb2⟩; have HB2 : Hid (Below w.heap.size w w2) := Below.next HB1.out hb2; clear hb2)
    | (refine wpList_store_row rfl 50 _ _ rfl w2.heap.size (bR (xoB s (rk 0))) rfl rfl 50 (rowZ .u8 16 (fun _ => 0)) (heap_alloc_last _ _) HI.out (by rw [h0, h4]) HONE.out ?_; have HR3 := hidD (setRow_heap _ _ _ (bR (xoB s (rk 0))) (50 : TypeId) (0, 0) (heap_alloc_last w2 (.cells (rowZ .u8 16 (fun _ => 0)) (50 : TypeId)))); have HB3 : Hid (Below w.heap.size w ((w2.alloc (.cells (rowZ .u8 16 (fun _ => 0)) (50 : TypeId))).setRow w2.heap.size (bR (xoB s (rk 0))))) := below_setRow (Below.next HB2.out (HAL.out _ _)) HB2.out.size _; generalize (w2.alloc (.cells (rowZ .u8 16 (fun _ => 0)) (50 : TypeId))).setRow w2.heap.size (bR (xoB s (rk 0))) = w3 at *; have HG2 := hidD HB2.out.size; generalize w2.heap.size = gs at *)
    | (at_builtin; refine wpList_append_by rfl _ _ rfl w3.heap.size (.slice (some ⟨w3.heap.size, 0, none⟩) 0 0) 0 [] rfl (empty_ownB w3) (.slice (some ⟨gs, 0, none⟩) 16 16) (toL (xoB s (rk 0))) rfl ((by_block HR3.out).next (HAL.out _ _)) (by rw [toL_len]; omega) (by simp) ?_; intro v4 w4 hown4 hg4; rw [toL_len, Nat.zero_add, List.nil_append] at hown4; obtain ⟨g4, c4, hv4, hge4, _, _⟩ := row_shapeC hown4 (by omega); subst hv4; have HO4 := hidD hown4; have HB4 : Hid (Below w3.heap.size w3 w4) := row_grown (empty_ownB w3) (HAL.out w3 _) hg4 (by simp); clear hown4 hg4 hge4))
  /- the loop -/
  have HSZ3 : Hid (gs < w3.heap.size) := row_lt HR3.out
  obtain ⟨i22, hi22, hz22, hs22, hb22⟩ := info_parts Try.info22
  have HBW : Hid (Below w.heap.size w (w4.alloc (.cells #[.slice (some ⟨g4, 0, none⟩) 16 c4] (22 : TypeId)))) := Below.next (Below.next HB3.out HB4.out) (HAL.out _ _)
  have HOU : Hid ((w4.alloc (.cells #[.slice (some ⟨g4, 0, none⟩) 16 c4] (22 : TypeId))).ownsRow w.heap.size 22 1 (.slice (some ⟨w4.heap.size, 0, none⟩) 1 1) 1 [.slice (some ⟨g4, 0, none⟩) 16 c4]) := full_row (Nat.le_trans HB3.out.size HB4.out.size) rfl (by unfold maxLen; omega) (heap_alloc_last _ _)
  have HSA : Hid (StAt (w4.alloc (.cells #[.slice (some ⟨g4, 0, none⟩) 16 c4] (22 : TypeId))) (gs + 1) [.slice (some ⟨g4, 0, none⟩) 16 c4] R rk s 1) := (StAt.first (own_mono HO4.out HSZ3.out)).next (HAL.out _ _)
  have HRW : Hid ((w4.alloc (.cells #[.slice (some ⟨g4, 0, none⟩) 16 c4] (22 : TypeId))).heap[gs]? = some (.cells (bR (xoB s (rk 0))) (50 : TypeId) (0, 0))) := ((HAL.out w4 _).block _ (Nat.lt_of_lt_of_le HSZ3.out HB4.out.size)).trans ((HB4.out.block _ HSZ3.out).trans HR3.out)
  have HEX : Hid (∀ r, 1 ≤ r → bR (enTo R rk s 0) = bR (xoB s (rk 0))) := fun _ _ => rfl
  have HBX : Hid (∃ gb cb, BxAt w b gb cb) := (HRC.out w (Below.refl _ _)).bx
  obtain ⟨gb, cb, hbx⟩ := HBX.out
  have HBXX := hidD hbx
  clear HBX hbx HR3 HB3 HB4 HO4 HSZ3 HI HONE h4 h0 HBK HB1 HB2 HEX
  generalize w4.alloc (.cells #[.slice (some ⟨g4, 0, none⟩) 16 c4] (22 : TypeId)) = W4 at *
  generalize w4.heap.size = g9 at *
  go_loopw [7, 8] (fun o i wr => ∃ (r : Nat) (vs : List Value), 1 ≤ r ∧ r ≤ R + 1 ∧ i = .int .i64 r ∧ wr.ownsRow w.heap.size 22 1 o r vs ∧ StAt wr (gs + 1) vs R rk s r ∧ wr.heap[gs]? = some (.cells (bR (enTo R rk s (r - 1))) (50 : TypeId) (0, 0)) ∧ Below w.heap.size w wr) (fun _ i _ => R + 1 - (intOf i).toNat)
  case atStart => exact ⟨1, _, by omega, by omega, rfl, HOU.out, HSA.out, HRW.out, HBW.out⟩
  case round =>
    obtain ⟨wo, hwo⟩ : ∃ wo, wo = wr := ⟨_, rfl⟩
    subst hwo
    obtain ⟨r, vs, hr1, hr2, rfl, hown, hst, hgs, hbel⟩ := hrel
    have HOW := hidD hown
    have HST := hidD hst
    have HGS := hidD hgs
    have HBL := hidD hbel
    have hcR : wo.cell? ⟨b, 1, none⟩ = some (.int .i64 (R : Int)) := by have := (HRC.out wo hbel).r; rw [HRR.out] at this; exact this
    clear HOU HSA HRW HBW
    by_cases hlt : r ≤ R
    · have hlti : (r : Int) ≤ (R : Int) := by omega
      have HSE : Hid (∃ S, enTo R rk s (r - 1) = S) := ⟨_, rfl⟩
      obtain ⟨S, hSE⟩ := HSE.out
      clear HSE
      have HSE := hidD hSE
      have HRS : Hid (RowZ wo gs .u8 16 50 (fun i => ((S i).toNat : Int))) := by rw [hSE] at hgs; exact hgs
      clear hSE hown hst hgs hbel
      go_wp2_with fail
      go_loopw [9] (fun i wr => ∃ k : Nat, k ≤ 16 ∧ i = .int .i64 k ∧ RowZ wr gs .u8 16 50 (fun i => ((if i < k then sbB S i else S i : UInt8).toNat : Int)) ∧ But gs wo wr) (fun i _ => 16 - (intOf i).toNat)
      case atStart => exact ⟨0, Nat.zero_le _, rfl, HRS.out, But.refl _ _⟩
      case round =>
        obtain ⟨k, hk, rfl, hrow, hbut⟩ := hrel
        have HBU := hidD hbut
        by_cases hlk : k < 16
        · have hlki : (k : Int) < 16 := by omega
          have hbw : Below w.heap.size w wr := HBL.out.trans (hbut.bel.mono HG2.out)
          obtain ⟨d0, d1, d2, d3⟩ := HBXX.out.next hbw
          have hxl := u8_lt (S k)
          have hxli : ((S k).toNat : Int) < 256 := by omega
          have hca : ∀ i : BW wr, i.v.cell? ⟨gs, k, none⟩ = some (.int .u8 ((S k).toNat : Int)) := fun i => by
            have := hrow.cell hlk
            rw [if_neg (by omega)] at this
            exact (i.below.cell (p := ⟨gs, k, none⟩) hrow.lt).trans this
          have hcb : ∀ i : BW wr, i.v.cell? ⟨b, 2, none⟩ = some (.slice (some ⟨gb, 0, none⟩) 256 cb) := fun i => (i.below.cell (p := ⟨b, 2, none⟩) d2).trans d0
          have hcc : ∀ i : BW wr, i.v.cell? ⟨gb, (S k).toNat, none⟩ = some (.int .u8 ((sbB S k).toNat : Int)) := fun i => by
            rw [show (sbB S k).toNat = sbN (S k).toNat from sub_sb _]
            exact (i.below.cell (p := ⟨gb, (S k).toNat, none⟩) d3).trans (d1 _ hxl)
          have hfa : ∀ i : BW wr, i.v.frozen? ⟨gs, k, none⟩ = false := fun i => (i.below.frozen (p := ⟨gs, k, none⟩) hrow.lt).trans (hrow.frozen k)
          have HSR : Hid (∀ i : BW wr, RowZ (i.v.setCell ⟨gs, k, none⟩ (.int .u8 ((sbB S k).toNat : Int))) gs .u8 16 50 (fun i => ((if i < k + 1 then sbB S i else S i : UInt8).toNat : Int))) := fun i => by
            refine ((hrow.next i.below).set hlk _).congr fun i hi => ?_
            by_cases he : i = k
            · subst he; rw [if_pos rfl, if_pos (by omega)]
            · rw [if_neg he]
              by_cases h2 : i < k
              · rw [if_pos h2, if_pos (by omega)]
              · rw [if_neg h2, if_neg (by omega)]
          have HSB : Hid (∀ (i : BW wr) v, But gs wo (i.v.setCell ⟨gs, k, none⟩ v)) := fun i v => (hbut.trans (But.of i.below (Nat.le_of_lt hrow.lt))).put _ _
          clear hrow hbut d0 d1 d2 d3 hbw
          generalize ((sbB S k).toNat : Int) = Z at *
          generalize (S k).toNat = X at *
          go_wp2_with fail
          refine wp_region_put (by simp) (by kernel_rfl) rfl (by kernel_rfl) (by kernel_rfl) (by kernel_rfl) ?_
          simp only [List.dropLast_cons_cons, List.dropLast_singleton, List.getLast_cons_cons, List.getLast_singleton, List.cons_append, List.nil_append, mute]
          repeat (go_big_quiet_step (fail))
          refine wpQuiet_nil ?_
          intro i
          go_wp2_with fail
          go_roundw
          case rel => exact ⟨k + 1, by omega, by go_num, HSR.out _, HSB.out _ _⟩
          case measure => simp [intOf]; omega
        · obtain rfl : k = 16 := by omega
          have HL1 : Hid (wr.heap[gs]? = some (.cells (bR (sbB S)) (50 : TypeId) (0, 0))) := hrow.congr fun i hi => by rw [if_pos hi]
          have HL1U := HBU
          have hcR1 : wr.cell? ⟨b, 1, none⟩ = some (.int .i64 (R : Int)) := by have := (HRC.out wr (HBL.out.trans (hbut.bel.mono HG2.out))).r; rw [HRR.out] at this; exact this
          clear hrow hbut HBU HRS hcR
          by_cases hrR : r < R
          · have hrRi : (r : Int) < (R : Int) := by omega
            have HZC1 : Hid ((bR (sbB S)).size = 16) := rowZ_size _ _ _
            have HOC1 : Hid ((bR (sbB S)).all (·.oneCell') = true) := rowZ_one _ _ _
            have HIC1 : Hid ((Try.prog.info? 50).map (·.size) = some (bR (sbB S)).size) := by rw [HZC1.out]; exact HSZ50.out
            have HZC2 : Hid ((bR (shB (sbB S))).size = 16) := rowZ_size _ _ _
            have HOC2 : Hid ((bR (shB (sbB S))).all (·.oneCell') = true) := rowZ_one _ _ _
            have HIC2 : Hid ((Try.prog.info? 50).map (·.size) = some (bR (shB (sbB S))).size) := by rw [HZC2.out]; exact HSZ50.out
            have HZC3 : Hid ((bR (mcB mixM (shB (sbB S)))).size = 16) := rowZ_size _ _ _
            have HOC3 : Hid ((bR (mcB mixM (shB (sbB S)))).all (·.oneCell') = true) := rowZ_one _ _ _
            have HIC3 : Hid ((Try.prog.info? 50).map (·.size) = some (bR (mcB mixM (shB (sbB S)))).size) := by rw [HZC3.out]; exact HSZ50.out
            have HZC4 : Hid ((bR (xoB (mcB mixM (shB (sbB S))) (rk r))).size = 16) := rowZ_size _ _ _
            have HOC4 : Hid ((bR (xoB (mcB mixM (shB (sbB S))) (rk r))).all (·.oneCell') = true) := rowZ_one _ _ _
            have HIC4 : Hid ((Try.prog.info? 50).map (·.size) = some (bR (xoB (mcB mixM (shB (sbB S))) (rk r))).size) := by rw [HZC4.out]; exact HSZ50.out
            have HSF : Hid (∀ wA, Calls Try.prog 36 #[.agg (bR (sbB S)), .int .i64 1] wA fun e w' => e = .returned (.agg (bR (shB (sbB S)))) ∧ Below wA.heap.size wA w') := fun wA => refShift_any _ wA
            have HMX : Hid (∀ wA, Calls Try.prog 47 #[.agg (bR (shB (sbB S))), .bool false] wA fun e w' => e = .returned (.agg (bR (mcB mixM (shB (sbB S))))) ∧ Below wA.heap.size wA w') := fun wA => refMixB_any _ wA
            have HKA : Hid (∀ wA, Below w.heap.size w wA → Calls Try.prog 46 #[.pointer (some ⟨b, 0, none⟩), .agg (bR (mcB mixM (shB (sbB S)))), .int .i64 (r : Int)] wA fun e w' => e = .returned (.agg (bR (xoB (mcB mixM (shB (sbB S))) (rk r)))) ∧ Below wA.heap.size wA w') := fun wA hb => HAD.out r (by omega) _ wA hb
            have HEN : Hid (enTo R rk s r = xoB (mcB mixM (shB (sbB S))) (rk r)) := by
              show _ = _
              have h1 : enTo R rk s r = rdE R rk (enTo R rk s (r - 1)) r := by
                rw [show r = (r - 1) + 1 by omega]; rfl
              rw [h1, HSE.out]
              unfold rdE midB
              rw [if_pos hrR]
            have HBY : Hid (∀ wA, wA.heap[gs]? = some (.cells (bR (xoB (mcB mixM (shB (sbB S))) (rk r))) (50 : TypeId) (0, 0)) → ByAt wA (.slice (some ⟨gs, 0, none⟩) 16 16) (toL (enTo R rk s r))) := fun wA h => by rw [HEN.out]; exact by_block h
            have HEB : Hid (bR (enTo R rk s r) = bR (xoB (mcB mixM (shB (sbB S))) (rk r))) := by rw [HEN.out]; rfl
            generalize bR (xoB (mcB mixM (shB (sbB S))) (rk r)) = C4 at *
            obtain ⟨EN, hEN⟩ : ∃ EN, enTo R rk s r = EN := ⟨_, rfl⟩
            rw [hEN] at HBY
            have HENR := hidD hEN
            clear hEN
            generalize bR (mcB mixM (shB (sbB S))) = C3 at *
            generalize bR (shB (sbB S)) = C2 at *
            generalize bR (sbB S) = C1 at *
            clear HEN
            go_wp2_with (first
              | (refine wpList_load_row rfl 50 _ rfl gs rfl 50 C1 (0, 0) _ HL1.out Try.underlying50 rfl HIC1.out ?_)
              | (go_at_call 36; refine (HSF.out _).mono ?_; rintro e w5 ⟨rfl, hbx⟩; have HSC1 := hidD ((hbx.block _ (row_lt HL1.out)).trans HL1.out); have HUC1 : Hid (But gs wo w5) := HL1U.out.trans (But.of hbx (Nat.le_of_lt (row_lt HL1.out))); clear hbx HL1 HL1U)
              | (refine wpList_store_row rfl 50 _ _ rfl gs C2 rfl rfl 50 C1 HSC1.out HIC2.out (by rw [HZC2.out, HZC1.out]) HOC2.out ?_; have HL2 := hidD (setRow_heap _ _ C1 C2 (50 : TypeId) (0, 0) HSC1.out); have HL2U : Hid (But gs wo (w5.setRow gs C2)) := HUC1.out.setRow _; clear HSC1 HUC1; generalize w5.setRow gs C2 = w5s at *; have hcR5 : w5s.cell? ⟨b, 1, none⟩ = some (.int .i64 (R : Int)) := by { have h1 := (HRC.out w5s (HBL.out.trans (HL2U.out.bel.mono HG2.out))).r; rw [HRR.out] at h1; exact h1 })
              | (refine wpList_load_row rfl 50 _ rfl gs rfl 50 C2 (0, 0) _ HL2.out Try.underlying50 rfl HIC2.out ?_)
              | (go_at_call 47; refine (HMX.out _).mono ?_; rintro e w6 ⟨rfl, hbx⟩; have HSC2 := hidD ((hbx.block _ (row_lt HL2.out)).trans HL2.out); have HUC2 : Hid (But gs wo w6) := HL2U.out.trans (But.of hbx (Nat.le_of_lt (row_lt HL2.out))); clear hbx HL2 HL2U)
              | (refine wpList_store_row rfl 50 _ _ rfl gs C3 rfl rfl 50 C2 HSC2.out HIC3.out (by rw [HZC3.out, HZC2.out]) HOC3.out ?_; have HL3 := hidD (setRow_heap _ _ C2 C3 (50 : TypeId) (0, 0) HSC2.out); have HL3U : Hid (But gs wo (w6.setRow gs C3)) := HUC2.out.setRow _; clear HSC2 HUC2; generalize w6.setRow gs C3 = w6s at *)
              | (refine wpList_load_row rfl 50 _ rfl gs rfl 50 C3 (0, 0) _ HL3.out Try.underlying50 rfl HIC3.out ?_)
              | (go_at_call 46; refine (HKA.out _ (HBL.out.trans (HL3U.out.bel.mono HG2.out))).mono ?_; rintro e w7 ⟨rfl, hbx⟩; have HSC3 := hidD ((hbx.block _ (row_lt HL3.out)).trans HL3.out); have HUC3 : Hid (But gs wo w7) := HL3U.out.trans (But.of hbx (Nat.le_of_lt (row_lt HL3.out))); clear hbx HL3 HL3U)
              | (refine wpList_store_row rfl 50 _ _ rfl gs C4 rfl rfl 50 C3 HSC3.out HIC4.out (by rw [HZC4.out, HZC3.out]) HOC4.out ?_; have HL4 := hidD (setRow_heap _ _ C3 C4 (50 : TypeId) (0, 0) HSC3.out); have HL4U : Hid (But gs wo (w7.setRow gs C4)) := HUC3.out.setRow _; clear HSC3 HUC3; generalize w7.setRow gs C4 = w7s at *)
              | (at_builtin; refine wpList_append_by rfl _ _ rfl w7s.heap.size (.slice (some ⟨w7s.heap.size, 0, none⟩) 0 0) 0 [] rfl (empty_ownB w7s) (.slice (some ⟨gs, 0, none⟩) 16 16) (toL EN) rfl ((HBY.out _ HL4.out).next (HAL.out _ _)) (by rw [toL_len]; omega) (by simp) ?_; intro v8 w8 hown8 hg8; rw [toL_len, Nat.zero_add, List.nil_append] at hown8; obtain ⟨g8, c8, hv8, hge8, _, _⟩ := row_shapeC hown8 (by omega); subst hv8; have HO8 := hidD hown8; have HB8 : Hid (Below w7s.heap.size w7s w8) := row_grown (empty_ownB w7s) (HAL.out w7s _) hg8 (by simp); have HOW8 := hidD (row_below (row_below (own_but HOW.out HL4U.out HGS.out (by decide)) HB8.out) (HAL.out w8 (.cells #[.slice (some ⟨g8, 0, none⟩) 16 c8] (22 : TypeId)))); have HSW8 : Hid (w.heap.size ≤ (w8.alloc (.cells #[.slice (some ⟨g8, 0, none⟩) 16 c8] (22 : TypeId))).heap.size) := by { have h1 := (HL4U.out.bel.trans (HB8.out.mono (Nat.le_of_lt (row_lt HL4.out)))).size; show _ ≤ _; have h2 := HBL.out.size; have h3 := (HAL.out w8 (.cells #[.slice (some ⟨g8, 0, none⟩) 16 c8] (22 : TypeId))).size; omega }; clear hown8 hg8 hge8)
              | (at_builtin; refine wpList_append_own _ rfl _ _ 42 rfl w.heap.size 22 i22 (.slice none 0 0) 1 24 Try.underlying42 hi22 hz22 hs22 hb22 rfl (by decide) u7 r vs rfl HOW8.out ⟨w8.heap.size, 0, none⟩ 1 1 [.slice (some ⟨g8, 0, none⟩) 16 c8] rfl rfl (new_cell1 _ _ _) (by simp [Value.oneCell']) (by unfold maxLen; omega) (by omega) HSW8.out ?_; intro v9 w9 hown9 hg9 hnil9; have HO9 := hidD hown9; have HG9 := hidD hg9; clear hown9 hg9 hnil9))
            have HS8 : Hid (StAt w8 (gs + 1) vs R rk s r) := (HST.out.keep fun g C hg hgc => HL4U.out.rest g (row_lt hgc) (by omega)).next HB8.out
            have HP8 : Hid (StAt w8 (gs + 1) (vs ++ [.slice (some ⟨g8, 0, none⟩) 16 c8]) R rk s (r + 1)) := HS8.out.push (by rw [HENR.out]; exact own_mono HO8.out (row_lt HL4.out))
            have HL8 := hidD ((HB8.out.block _ (row_lt HL4.out)).trans HL4.out)
            have HLA := hidD (((HAL.out w8 (.cells #[.slice (some ⟨g8, 0, none⟩) 16 c8] (22 : TypeId))).block _ (row_lt HL8.out)).trans HL8.out)
            have HP9 : Hid (StAt w9 (gs + 1) (vs ++ [.slice (some ⟨g8, 0, none⟩) 16 c8]) R rk s (r + 1)) := (HP8.out.next (HAL.out _ _)).keep fun g C hg hgc => HG9.out.block g (row_lt hgc) (own_noneq HOW8.out hgc (by decide))
            have HL9 : Hid (w9.heap[gs]? = some (.cells C4 (50 : TypeId) (0, 0))) := (HG9.out.block gs (row_lt HLA.out) (own_noneq HOW8.out HLA.out (by decide))).trans HLA.out
            have HB9 : Hid (Below w.heap.size w w9) := row_grown HOW8.out (HBL.out.trans ((HL4U.out.bel.mono HG2.out).trans ((Below.next HB8.out (HAL.out w8 _)).mono (Nat.le_trans HG2.out (Nat.le_of_lt (row_lt HL4.out)))))) HG9.out HSW8.out
            go_roundw
            case rel => exact ⟨r + 1, _, by omega, by omega, by go_num, HO9.out, HP9.out, by rw [Nat.add_sub_cancel, HEB.out]; exact HL9.out, HB9.out⟩
            case measure => simp [intOf]; omega
          · have hrRi : ¬ (r : Int) < (R : Int) := by omega
            have hrRd : decide ((r : Int) < (R : Int)) = false := by simpa using hrRi
            have HZC1 : Hid ((bR (sbB S)).size = 16) := rowZ_size _ _ _
            have HOC1 : Hid ((bR (sbB S)).all (·.oneCell') = true) := rowZ_one _ _ _
            have HIC1 : Hid ((Try.prog.info? 50).map (·.size) = some (bR (sbB S)).size) := by rw [HZC1.out]; exact HSZ50.out
            have HZC2 : Hid ((bR (shB (sbB S))).size = 16) := rowZ_size _ _ _
            have HOC2 : Hid ((bR (shB (sbB S))).all (·.oneCell') = true) := rowZ_one _ _ _
            have HIC2 : Hid ((Try.prog.info? 50).map (·.size) = some (bR (shB (sbB S))).size) := by rw [HZC2.out]; exact HSZ50.out
            have HZC4 : Hid ((bR (xoB (shB (sbB S)) (rk r))).size = 16) := rowZ_size _ _ _
            have HOC4 : Hid ((bR (xoB (shB (sbB S)) (rk r))).all (·.oneCell') = true) := rowZ_one _ _ _
            have HIC4 : Hid ((Try.prog.info? 50).map (·.size) = some (bR (xoB (shB (sbB S)) (rk r))).size) := by rw [HZC4.out]; exact HSZ50.out
            have HSF : Hid (∀ wA, Calls Try.prog 36 #[.agg (bR (sbB S)), .int .i64 1] wA fun e w' => e = .returned (.agg (bR (shB (sbB S)))) ∧ Below wA.heap.size wA w') := fun wA => refShift_any _ wA
            have HKA : Hid (∀ wA, Below w.heap.size w wA → Calls Try.prog 46 #[.pointer (some ⟨b, 0, none⟩), .agg (bR (shB (sbB S))), .int .i64 (r : Int)] wA fun e w' => e = .returned (.agg (bR (xoB (shB (sbB S)) (rk r)))) ∧ Below wA.heap.size wA w') := fun wA hb => HAD.out r (by omega) _ wA hb
            have HEN : Hid (enTo R rk s r = xoB (shB (sbB S)) (rk r)) := by
              show _ = _
              have h1 : enTo R rk s r = rdE R rk (enTo R rk s (r - 1)) r := by
                rw [show r = (r - 1) + 1 by omega]; rfl
              rw [h1, HSE.out]
              unfold rdE midB
              rw [if_neg hrR]
            have HBY : Hid (∀ wA, wA.heap[gs]? = some (.cells (bR (xoB (shB (sbB S)) (rk r))) (50 : TypeId) (0, 0)) → ByAt wA (.slice (some ⟨gs, 0, none⟩) 16 16) (toL (enTo R rk s r))) := fun wA h => by rw [HEN.out]; exact by_block h
            have HEB : Hid (bR (enTo R rk s r) = bR (xoB (shB (sbB S)) (rk r))) := by rw [HEN.out]; rfl
            generalize bR (xoB (shB (sbB S)) (rk r)) = C4 at *
            obtain ⟨EN, hEN⟩ : ∃ EN, enTo R rk s r = EN := ⟨_, rfl⟩
            rw [hEN] at HBY
            have HENR := hidD hEN
            clear hEN
            generalize bR (shB (sbB S)) = C2 at *
            generalize bR (sbB S) = C1 at *
            clear HEN
            go_wp2_with (first
              | (refine wpList_load_row rfl 50 _ rfl gs rfl 50 C1 (0, 0) _ HL1.out Try.underlying50 rfl HIC1.out ?_)
              | (go_at_call 36; refine (HSF.out _).mono ?_; rintro e w5 ⟨rfl, hbx⟩; have HSC1 := hidD ((hbx.block _ (row_lt HL1.out)).trans HL1.out); have HUC1 : Hid (But gs wo w5) := HL1U.out.trans (But.of hbx (Nat.le_of_lt (row_lt HL1.out))); clear hbx HL1 HL1U)
              | (refine wpList_store_row rfl 50 _ _ rfl gs C2 rfl rfl 50 C1 HSC1.out HIC2.out (by rw [HZC2.out, HZC1.out]) HOC2.out ?_; have HL2 := hidD (setRow_heap _ _ C1 C2 (50 : TypeId) (0, 0) HSC1.out); have HL2U : Hid (But gs wo (w5.setRow gs C2)) := HUC1.out.setRow _; clear HSC1 HUC1; generalize w5.setRow gs C2 = w5s at *; have hcR5 : w5s.cell? ⟨b, 1, none⟩ = some (.int .i64 (R : Int)) := by { have h1 := (HRC.out w5s (HBL.out.trans (HL2U.out.bel.mono HG2.out))).r; rw [HRR.out] at h1; exact h1 })
              | (refine wpList_load_row rfl 50 _ rfl gs rfl 50 C2 (0, 0) _ HL2.out Try.underlying50 rfl HIC2.out ?_)
              | (go_at_call 46; refine (HKA.out _ (HBL.out.trans (HL2U.out.bel.mono HG2.out))).mono ?_; rintro e w7 ⟨rfl, hbx⟩; have HSC2 := hidD ((hbx.block _ (row_lt HL2.out)).trans HL2.out); have HUC2 : Hid (But gs wo w7) := HL2U.out.trans (But.of hbx (Nat.le_of_lt (row_lt HL2.out))); clear hbx HL2 HL2U)
              | (refine wpList_store_row rfl 50 _ _ rfl gs C4 rfl rfl 50 C2 HSC2.out HIC4.out (by rw [HZC4.out, HZC2.out]) HOC4.out ?_; have HL4 := hidD (setRow_heap _ _ C2 C4 (50 : TypeId) (0, 0) HSC2.out); have HL4U : Hid (But gs wo (w7.setRow gs C4)) := HUC2.out.setRow _; clear HSC2 HUC2; generalize w7.setRow gs C4 = w7s at *)
              | (at_builtin; refine wpList_append_by rfl _ _ rfl w7s.heap.size (.slice (some ⟨w7s.heap.size, 0, none⟩) 0 0) 0 [] rfl (empty_ownB w7s) (.slice (some ⟨gs, 0, none⟩) 16 16) (toL EN) rfl ((HBY.out _ HL4.out).next (HAL.out _ _)) (by rw [toL_len]; omega) (by simp) ?_; intro v8 w8 hown8 hg8; rw [toL_len, Nat.zero_add, List.nil_append] at hown8; obtain ⟨g8, c8, hv8, hge8, _, _⟩ := row_shapeC hown8 (by omega); subst hv8; have HO8 := hidD hown8; have HB8 : Hid (Below w7s.heap.size w7s w8) := row_grown (empty_ownB w7s) (HAL.out w7s _) hg8 (by simp); have HOW8 := hidD (row_below (row_below (own_but HOW.out HL4U.out HGS.out (by decide)) HB8.out) (HAL.out w8 (.cells #[.slice (some ⟨g8, 0, none⟩) 16 c8] (22 : TypeId)))); have HSW8 : Hid (w.heap.size ≤ (w8.alloc (.cells #[.slice (some ⟨g8, 0, none⟩) 16 c8] (22 : TypeId))).heap.size) := by { have h1 := (HL4U.out.bel.trans (HB8.out.mono (Nat.le_of_lt (row_lt HL4.out)))).size; show _ ≤ _; have h2 := HBL.out.size; have h3 := (HAL.out w8 (.cells #[.slice (some ⟨g8, 0, none⟩) 16 c8] (22 : TypeId))).size; omega }; clear hown8 hg8 hge8)
              | (at_builtin; refine wpList_append_own _ rfl _ _ 42 rfl w.heap.size 22 i22 (.slice none 0 0) 1 24 Try.underlying42 hi22 hz22 hs22 hb22 rfl (by decide) u7 r vs rfl HOW8.out ⟨w8.heap.size, 0, none⟩ 1 1 [.slice (some ⟨g8, 0, none⟩) 16 c8] rfl rfl (new_cell1 _ _ _) (by simp [Value.oneCell']) (by unfold maxLen; omega) (by omega) HSW8.out ?_; intro v9 w9 hown9 hg9 hnil9; have HO9 := hidD hown9; have HG9 := hidD hg9; clear hown9 hg9 hnil9))
            have HS8 : Hid (StAt w8 (gs + 1) vs R rk s r) := (HST.out.keep fun g C hg hgc => HL4U.out.rest g (row_lt hgc) (by omega)).next HB8.out
            have HP8 : Hid (StAt w8 (gs + 1) (vs ++ [.slice (some ⟨g8, 0, none⟩) 16 c8]) R rk s (r + 1)) := HS8.out.push (by rw [HENR.out]; exact own_mono HO8.out (row_lt HL4.out))
            have HL8 := hidD ((HB8.out.block _ (row_lt HL4.out)).trans HL4.out)
            have HLA := hidD (((HAL.out w8 (.cells #[.slice (some ⟨g8, 0, none⟩) 16 c8] (22 : TypeId))).block _ (row_lt HL8.out)).trans HL8.out)
            have HP9 : Hid (StAt w9 (gs + 1) (vs ++ [.slice (some ⟨g8, 0, none⟩) 16 c8]) R rk s (r + 1)) := (HP8.out.next (HAL.out _ _)).keep fun g C hg hgc => HG9.out.block g (row_lt hgc) (own_noneq HOW8.out hgc (by decide))
            have HL9 : Hid (w9.heap[gs]? = some (.cells C4 (50 : TypeId) (0, 0))) := (HG9.out.block gs (row_lt HLA.out) (own_noneq HOW8.out HLA.out (by decide))).trans HLA.out
            have HB9 : Hid (Below w.heap.size w w9) := row_grown HOW8.out (HBL.out.trans ((HL4U.out.bel.mono HG2.out).trans ((Below.next HB8.out (HAL.out w8 _)).mono (Nat.le_trans HG2.out (Nat.le_of_lt (row_lt HL4.out)))))) HG9.out HSW8.out
            go_roundw
            case rel => exact ⟨r + 1, _, by omega, by omega, by go_num, HO9.out, HP9.out, by rw [Nat.add_sub_cancel, HEB.out]; exact HL9.out, HB9.out⟩
            case measure => simp [intOf]; omega
    · obtain rfl : r = R + 1 := by omega
      have hend : ¬ ((R + 1 : Nat) : Int) ≤ (R : Int) := by omega
      clear hown hst hgs hbel
      go_wp2_with fail
      refine bodyPost_ret (v := .tuple #[u7, .int .i64 0]) (by simp [results, Try.results21, go_sem]) rfl ?_
      exact ⟨_, rfl, HBL.out, vs, HOW.out, gs + 1, Nat.le_succ_of_le HG2.out, HST.out⟩
end Go.Proofs.Ytgefampdfhbmbaa
/- What the document's Encrypt answers. -/
namespace Go.Proofs.Ytgefampdfhbmbaa
open Go.RowKit
set_option linter.unusedVariables false

set_option maxRecDepth 100000 in
theorem refEncrypt_nil (v : Value) (w : World) : Calls Try.prog 17 #[.pointer none, v] w fun e w' => e = .returned (.tuple #[.slice none 0 0, .int .i64 2]) ∧ w' = w := by
  have HS := hidD (refSteps_nil v w)
  go_enter Try.func17, Try.ntmps17
  go_wp2_with (go_at_call 21; refine HS.out.mono ?_; rintro e w1 ⟨rfl, rfl⟩)
  refine bodyPost_ret (v := .tuple #[.slice none 0 0, .int .i64 2]) (by simp [results, Try.results17, go_sem]) rfl ?_
  exact ⟨rfl, rfl⟩
set_option maxRecDepth 100000 in
theorem refEncrypt_no (l : List UInt8) (hl : l.length ≠ 16) (b : Nat) (v : Value) (w : World) (hv : ByAt w v l) : Calls Try.prog 17 #[.pointer (some ⟨b, 0, none⟩), v] w fun e w' => e = .returned (.tuple #[.slice none 0 0, .int .i64 91]) ∧ w' = w := by
  have HS := hidD (refSteps_no l hl b v w hv)
  obtain ⟨a', cap, rfl, hsh⟩ := hv.shape
  clear hsh hv hl
  generalize l.length = LL at *
  go_enter Try.func17, Try.ntmps17
  go_wp2_with (go_at_call 21; refine HS.out.mono ?_; rintro e w1 ⟨rfl, rfl⟩)
  refine bodyPost_ret (v := .tuple #[.slice none 0 0, .int .i64 91]) (by simp [results, Try.results17, go_sem]) rfl ?_
  exact ⟨rfl, rfl⟩
set_option maxRecDepth 100000 in
set_option maxHeartbeats 800000 in
theorem refEncrypt_any (l : List UInt8) (hl : l.length = 16) (n : Nat) (hn : n ≤ 8) (key : Nat → UInt8) (b : Nat) (v : Value) (w : World) (h : RcAt w b n key) (hv : ByAt w v l) : Calls Try.prog 17 #[.pointer (some ⟨b, 0, none⟩), v] w fun e w' => ∃ vo, e = .returned (.tuple #[vo, .int .i64 0]) ∧ w'.ownsRow w.heap.size 5 1 vo 16 ((toL (enS (n + 6) (rkS n key) (blk l))).map encB) ∧ Below w.heap.size w w' := by
  have HS := hidD (refSteps_any l hl n hn key b v w h hv)
  obtain ⟨a', cap, rfl, hsh⟩ := hv.shape
  clear hsh hv h
  rw [hl] at *
  clear hl
  have hsub : ((n + 7 : Nat) : Int) - 1 = ((n + 6 : Nat) : Int) := by omega
  have hlt : ((n + 6 : Nat) : Int) < ((n + 7 : Nat) : Int) := by omega
  have hb6 : n + 6 ≤ 14 := by omega
  have hb7 : n + 7 ≤ 15 := by omega
  have HN7 : Hid (n + 6 < n + 7) := by show _ < _; omega
  generalize hR7 : n + 7 = R7 at *
  go_enter Try.func17, Try.ntmps17
  go_wp2_with (go_at_call 21; refine HS.out.mono ?_; rintro e w1 ⟨vo, rfl, hb1, vs, hown, gs, hgs, hst⟩; have HB1 := hidD hb1; have HST := hidD hst; have HGS := hidD hgs; have HOW := hidD hown; obtain ⟨go, co, hve, hge, hgl, hcap⟩ := row_shapeC hown (by omega); subst hve; obtain ⟨vl, hvl, hol⟩ := hst.2 (n + 6) HN7.out; have hcl : w1.cell? ⟨go, n + 6, none⟩ = some vl := by { have h1 := hown.cells (g := go) rfl (n + 6) vl hvl; rw [show (⟨go, 0, none⟩ : Addr).add (n + 6) = ⟨go, 0 + (n + 6), none⟩ from Addr.add_lit .., Nat.zero_add] at h1; exact h1 }; obtain ⟨g5, c5, hv5, _, _, _⟩ := row_shapeC hol (by omega); subst hv5; have HOL := hidD hol; clear hol hst hb1 hown hge hgl hcap hvl hgs; generalize hR6 : n + 6 = R6 at *)
  refine bodyPost_ret (v := .tuple #[.slice (some ⟨g5, 0, none⟩) 16 c5, .int .i64 0]) (by simp [results, Try.results17, go_sem]) rfl ?_
  refine ⟨_, rfl, ?_, HB1.out⟩
  have h1 := own_mono HOL.out HGS.out
  rw [← hR6] at h1
  exact h1
end Go.Proofs.Ytgefampdfhbmbaa
