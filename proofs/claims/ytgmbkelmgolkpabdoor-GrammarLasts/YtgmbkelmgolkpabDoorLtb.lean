/- The law GrammarLasts: true of any text. -/
import Derived.Test.YtgmbkelmgolkpabDoorGg
namespace Go.Proofs.YtgmbkelmgolkpabDoor
open Go.RowKit Go.Maps
set_option linter.unusedVariables false

set_option maxRecDepth 100000 in
set_option maxHeartbeats 800000 in
theorem lasts_bad (x : Tx) (hx : x.length ≤ maxLen) (hE : (prR x).2 ≠ 0) (mx : Int) (w : World) (h00 : 0 < w.heap.size) (hm : w.cell? ⟨0, 0, none⟩ = some (.int .i64 mx)) : Calls Tryd.prog 3 #[encT x] w fun e w' => e = .returned (.bool true) ∧ Below w.heap.size w w' := by
  have HAL := hidD (alive_any mx w h00 hm)
  have HPA := hidD (fun w' (hb : Below w.heap.size w w') => parse_any x hx mx w' (Nat.lt_of_lt_of_le h00 hb.size) ((hb.cell (p := ⟨0, 0, none⟩) h00).trans hm))
  have HPI : Hid (∀ w1 w2 e, PrIs x w1 w2 e → e = .returned (.tuple #[.pointer none, .int .i64 (prR x).1, .int .i64 (prR x).2]) ∧ Below w1.heap.size w1 w2) := fun w1 w2 e h => ⟨h.1 hE, h.2.2⟩
  clear hm
  unfold encT at *
  generalize (prR x).1 = n1 at *
  generalize (prR x).2 = e1 at *
  generalize bA x = b at *
  have hEd : decide (e1 = 0) = false := decide_eq_false hE
  go_enter Tryd.func3, Tryd.ntmps3
  go_wp2_with first
    | (go_at_call 7; refine (HPA.out _ HB1.out).mono ?_; intro e w2 h2; obtain ⟨rfl, hb⟩ := HPI.out _ _ _ h2; have HB2 := hidD (Below.next HB1.out hb); clear h2 hb)
    | (go_at_call 6; refine HAL.out.mono ?_; rintro e w1 ⟨rfl, hb⟩; have HB1 := hidD hb; clear hb)
  all_goals (go_ret; exact ⟨rfl, HB2.out⟩)
/-- What the law asks of a grammar. -/
structure Lw (w : World) (p n Tt : Nat) : Prop where
  tn : Tt ≤ n ∧ n ≤ 128
  ter : ∀ w', Below w.heap.size w w' → Calls Tryd.prog 9 #[.pointer (some ⟨p, 0, none⟩)] w' fun e w'' => e = .returned (.int .i64 (Tt : Int)) ∧ w'' = w'
  sym : ∀ w', Below w.heap.size w w' → Calls Tryd.prog 10 #[.pointer (some ⟨p, 0, none⟩)] w' fun e w'' => e = .returned (.int .i64 (n : Int)) ∧ w'' = w'
  lst : ∀ (s : Nat), Tt ≤ s → s < n → ∀ w', Below w.heap.size w w' → Calls Tryd.prog 11 #[.pointer (some ⟨p, 0, none⟩), .int .i64 (s : Int)] w' fun e w'' => ∃ (ok : Bool) (l : List Int) (u : Value), e = .returned (.tuple #[u, .bool ok]) ∧ IlAt w'' u l ∧ LtC w' p Tt s ok l ∧ Below w'.heap.size w' w''
  use : ∀ w', Below w.heap.size w w' → Calls Tryd.prog 8 #[.pointer (some ⟨p, 0, none⟩)] w' fun e w'' => ∃ us u, e = .returned u ∧ IlAt w'' u us ∧ us.length ≤ 128 ∧ (∀ i, i < us.length → (Tt : Int) ≤ us.getD i 0 ∧ us.getD i 0 < (n : Int)) ∧ (∀ i, i + 1 < us.length → us.getD i 0 < us.getD (i + 1) 0) ∧ Below w'.heap.size w' w''
theorem lw_of {w : World} {p : Nat} {x : Tx} (hE : (prR x).2 = 0) {st nul : Nat} {bg fo : Nat → Nat} (h : GfAt w p (teS (parsL x)) (otS (parsL x)) st ((parsL x).map (rnF (nuF (teS (parsL x)) (otS (parsL x))))) nul bg fo) : Lw w p (allN (teS (parsL x)) (otS (parsL x))).length ((teS (parsL x)).length + 1) := by
  have hlen := allN_len (teS (parsL x)) (otS (parsL x))
  refine ⟨⟨by omega, h.few⟩, fun w' hb => terminals_any w' (h.next hb).gm, fun w' hb => symbols_any w' (h.next hb).gm, fun s h1 h2 w' hb => least_told hE (h.next hb) s h1 h2, fun w' hb => (useless_any (h.next hb)).mono fun e w'' ⟨E, X, u, e1, e2, e3, e4, e5⟩ => ⟨_, u, e1, e4, Nat.le_trans (us_len _ _ _ _) (by have := h.few; omega), fun i hi => ?_, fun i hi => us_rise hi, e5⟩⟩
  rw [List.getD_eq_getElem?_getD, List.getElem?_eq_getElem hi, Option.getD_some]
  obtain ⟨j, h1, h2⟩ := us_mem (List.getElem_mem hi)
  omega
set_option maxRecDepth 100000 in
set_option maxHeartbeats 3200000 in
theorem lasts_ok (x : Tx) (hx : x.length ≤ maxLen) (hE : (prR x).2 = 0) (mx : Int) (w : World) (h00 : 0 < w.heap.size) (hm : w.cell? ⟨0, 0, none⟩ = some (.int .i64 mx)) : Calls Tryd.prog 3 #[encT x] w fun e w' => e = .returned (.bool true) ∧ Below w.heap.size w w' := by
  have HAL := hidD (alive_any mx w h00 hm)
  have HPA := hidD (fun w' (hb : Below w.heap.size w w') => parse_any x hx mx w' (Nat.lt_of_lt_of_le h00 hb.size) ((hb.cell (p := ⟨0, 0, none⟩) h00).trans hm))
  have HPI : Hid (∀ w1 w2 e, PrIs x w1 w2 e → ∃ p n Tt, e = .returned (.tuple #[.pointer (some ⟨p, 0, none⟩), .int .i64 0, .int .i64 0]) ∧ Below w1.heap.size w1 w2 ∧ Lw w2 p n Tt) := fun w1 w2 e h => by
    obtain ⟨p, nul, bg, fo, he, _, hg⟩ := h.2.1 hE
    exact ⟨p, _, _, he, h.2.2, lw_of hE hg⟩
  clear hm hE
  unfold encT at *
  generalize bA x = b at *
  go_enter Tryd.func3, Tryd.ntmps3
  go_wp2_with first
    | (go_at_call 9; refine (HLW.out.ter _ HB23.out).mono ?_; rintro e w4 ⟨rfl, hw⟩; subst w4)
    | (go_at_call 8; refine (HLW.out.use _ (Below.refl _ _)).mono ?_; rintro e w3 ⟨us, u3, rfl, hi, hu1, hu2, hu3, hb⟩; have HUS := hidD hi; have HU2 := hidD hu2; have HU3 := hidD hu3; have HB23 := hidD hb; have HB3 := hidD (Below.next HB2.out hb); obtain ⟨a3, c3, h3, _⟩ := hi; subst h3; clear hu2 hu3 hb)
    | (go_at_call 7; refine (HPA.out _ HB1.out).mono ?_; intro e w2 h2; obtain ⟨p, n, Tt, rfl, hb, hl⟩ := HPI.out _ _ _ h2; have HB2 := hidD (Below.next HB1.out hb); have HLW := hidD hl; clear h2 hb hl)
    | (go_at_call 6; refine HAL.out.mono ?_; rintro e w1 ⟨rfl, hb⟩; have HB1 := hidD hb; clear hb)
  obtain ⟨htn, hn⟩ := HLW.out.tn
  go_loopw [7] (fun i wr => ∃ s : Nat, Tt ≤ s ∧ s ≤ n ∧ i = .int .i64 (s : Int) ∧ Below w3.heap.size w3 wr) (fun i _ => n - (intOf i).toNat)
  case atStart => exact ⟨Tt, Nat.le_refl _, htn, rfl, Below.refl _ _⟩
  case round =>
    obtain ⟨s, hs1, hs2, rfl, hbel⟩ := hrel
    have HBW := hidD hbel
    have HB2W := hidD (Below.next HB23.out hbel)
    have HSY := hidD (HLW.out.sym wr HB2W.out)
    obtain ⟨wp, hwp⟩ : ∃ wp, wp = wr := ⟨_, rfl⟩
    subst hwp
    clear hbel
    by_cases hlt : s < n
    · have hlti : (s : Int) < (n : Int) := by omega
      have HLS := hidD (HLW.out.lst s hs1 hlt wp HB2W.out)
      go_upto_region 11 with first
        | (go_at_call 11; refine HLS.out.mono ?_; rintro e w5 ⟨ok, l, u5, rfl, hi, hlt2, hb⟩; have HI5 := hidD hi; have HLT := hidD hlt2; have HB5 := hidD hb; obtain ⟨a5, c5, h5, _⟩ := hi; subst h5; clear hlt2 hb)
        | (go_at_call 10; refine HSY.out.mono ?_; rintro e w4 ⟨rfl, hw⟩; subst w4)
      obtain ⟨hl1, hl2, hl3⟩ := HLT.out
      have HB35 := hidD (Below.next HBW.out HB5.out)
      have HB25 := hidD (Below.next HB2W.out HB5.out)
      cases ok with
      | false =>
        obtain rfl := hl2 rfl
        clear hl3
        simp only [List.length_nil]
        go_wp2_with fail
        go_roundw
        case rel => exact ⟨s + 1, by omega, by omega, by go_num, HB35.out⟩
        case measure => simp [intOf]; omega
      | true =>
        obtain ⟨q1, q2, B, q3, q4⟩ := hl3 rfl
        have HQ1 := hidD q1
        have HQ2 := hidD q2
        have HQ3 := hidD q3
        have HQ4 := hidD q4
        obtain ⟨hc1, hc2, hce⟩ : l.length ≤ c5 ∧ c5 ≤ 9223372036854775807 ∧ ∀ q, q < l.length → ∃ g o, a5 = some ⟨g, o, none⟩ ∧ g < w5.heap.size ∧ w5.cell? ⟨g, o + q, none⟩ = some (.int .i64 (l.getD q 0)) := by
          obtain ⟨a', c', e', h1', h2', h3'⟩ := HI5.out
          cases e'
          exact ⟨h1', h2', h3'⟩
        have HCE := hidD hce
        clear hl2 hl3 q1 q2 q3 q4 hce
        generalize hmm : l.length = m at *
        have HMM := hidD hmm
        clear hmm
        go_wp2_with fail
        go_loopw [10] (fun i wr => ∃ k : Nat, k ≤ m ∧ i = .int .i64 (k : Int) ∧ Below w5.heap.size w5 wr) (fun i _ => m - (intOf i).toNat)
        case atStart => exact ⟨0, Nat.zero_le _, rfl, Below.refl _ _⟩
        case round =>
          obtain ⟨k, hk, rfl, hbk⟩ := hrel
          have HBK := hidD hbk
          have HB2K := hidD (Below.next HB25.out hbk)
          obtain ⟨wk, hwk⟩ : ∃ wk, wk = wr := ⟨_, rfl⟩
          subst hwk
          by_cases hkt : k < m
          · have hkti : (k : Int) < (m : Int) := by omega
            obtain ⟨gl, ol, rfl, hgl, f0⟩ := HCE.out k hkt
            have f1 : wk.cell? ⟨gl, ol + k, none⟩ = some (.int .i64 (l.getD k 0)) := (hbk.cell (p := ⟨gl, ol + k, none⟩) hgl).trans f0
            obtain ⟨b0, b1⟩ := HQ1.out k hkt
            have HTE := hidD (HLW.out.ter wk.drew HB2K.out.drew)
            clear f0 hbk
            generalize l.getD k 0 = y at *
            have k0 : ∀ i : KB wk [gl], i.v.cell? ⟨gl, ol + k, none⟩ = some (.int .i64 y) := fun i => (i.cell (b := gl) (by simp) _).trans f1
            have hy0 : decide (y < 0) = false := decide_eq_false (by omega)
            have hy1 : ¬ (Tt : Int) - 1 ≤ y := by omega
            have hy2 : decide ((Tt : Int) - 1 ≤ y) = false := decide_eq_false hy1
            have HDR : Hid (Below w5.heap.size w5 wk.drew) := HBK.out.drew
            have HKK : Hid (∃ i : KB wk [gl], wk.drew = i.v) := ⟨⟨wk.drew, fun _ _ => rfl⟩, rfl⟩
            go_wp2_with fail
            refine wp_region_seg [0, 0, 0, 0, 0, 0, 0, 0, 0, 0, 0, 1, 2, 2, 2] 1 15 [gl] (by kernel_rfl) (by kernel_rfl) (by kernel_rfl) (by kernel_rfl) (by kernel_rfl) (by kernel_rfl) (by kernel_rfl) (by kernel_rfl) (fun _ _ _ _ _ h => h) ?_
            simp only [SegW, pk, Nat.reduceMul, Nat.reduceAdd, Nat.reduceBEq, cond_true, cond_false]
            repeat (go_big_quiet_step (fail))
            refine wpQuiet_nil ?_
            go_wp2_with (go_at_call 9; refine HTE.out.mono ?_; rintro e w6 ⟨rfl, hw⟩; subst w6)
            refine ⟨HKK.out, ?_⟩
            repeat (go_big_quiet_step (fail))
            refine wpQuiet_nil ?_
            go_wp2_with fail
            go_roundw
            case rel => exact ⟨k + 1, by omega, by go_num, HDR.out⟩
            case measure => simp [intOf]; omega
          · obtain rfl : k = m := by omega
            have HBPK := hidD (Below.next HB5.out HBK.out)
            have HNW : Hid (∀ w : World, IlAt (w.alloc (.cells #[.int .i64 (s : Int)] (3 : TypeId))) (.slice (some ⟨w.heap.size, 0, none⟩) 1 1) [(s : Int)]) := fun w => il_new (l := [(s : Int)]) (by simp)
            have HDR : Hid (Below wk.heap.size wk wk.drew) := (Below.refl _ _).drew
            by_cases hl0 : l = []
            · rw [decide_eq_true hl0] at HQ2
              obtain rfl : k = 0 := by rw [← HMM.out, hl0]; rfl
              have HKK : Hid (∀ w', Below wk.heap.size wk w' → ∃ i : KB wk [], w' = i.v) := fun w' hb => ⟨⟨w', fun y hy => by cases hy⟩, rfl⟩
              clear hbk hl0
              go_wp2_with fail
              refine wp_region_seg [0, 0, 0, 0, 0, 1, 3, 4, 4, 4, 4, 4, 4, 4, 4, 4, 4, 4, 4, 4, 5, 7, 8, 8, 8, 9, 11, 8, 8, 8, 99, 99, 99, 99, 99] 6 30 [] (by kernel_rfl) (by kernel_rfl) (by kernel_rfl) (by kernel_rfl) (by kernel_rfl) (by kernel_rfl) (by kernel_rfl) (by kernel_rfl) (fun _ _ _ _ _ h => h) ?_
              simp only [SegW, pk, Nat.reduceMul, Nat.reduceAdd, Nat.reduceBEq, cond_true, cond_false]
              repeat (go_big_quiet_step (fail))
              refine wpQuiet_nil ?_
              go_wp2_with fail
              refine ⟨HKK.out _ (Below.next HDR.out (bl_al _ _)), ?_⟩
              repeat (go_big_quiet_step (fail))
              refine wpQuiet_nil ?_
              go_wp2_with (go_at_call 12; refine (HQ2.out _ _ (Below.next HBPK.out (Below.next HDR.out (bl_al _ _))) (HNW.out wk.drew)).mono ?_; rintro e w7 ⟨rfl, hb⟩; have HB7 := hidD (Below.next (Below.next HDR.out (bl_al _ _)) hb); clear hb)
              refine ⟨HKK.out _ HB7.out, ?_⟩
              repeat (go_big_quiet_step (fail))
              refine wpQuiet_nil ?_
              go_wp2_with fail
              refine ⟨HKK.out _ HB7.out, ?_⟩
              repeat (go_big_quiet_step (fail))
              refine wpQuiet_nil ?_
              go_wp2_with fail
              refine ⟨HKK.out _ HB7.out, ?_⟩
              repeat (go_big_quiet_step (fail))
              refine wpQuiet_nil ?_
              go_wp2_with fail
              refine ⟨HKK.out _ HB7.out, ?_⟩
              repeat (go_big_quiet_step (fail))
              refine wpQuiet_nil ?_
              go_wp2_with fail
              refine ⟨HKK.out _ HB7.out, ?_⟩
              repeat (go_big_quiet_step (fail))
              refine wpQuiet_nil ?_
              go_wp2_with fail
              go_roundw
              case rel => exact ⟨s + 1, by omega, by omega, by go_num, Below.next HB35.out (Below.next HBK.out HB7.out)⟩
              case measure => simp [intOf]; omega
            · rw [decide_eq_false hl0] at HQ2
              have HHS := hidD (HQ4.out hl0)
              have hm0 : 0 < k := by
                rcases Nat.lt_or_ge 0 k with h | h
                · exact h
                · exact absurd (List.length_eq_zero_iff.1 (by rw [HMM.out]; omega)) hl0
              have hm1 : (0 : Int) < (k : Int) := by omega
              have hm2 : decide ((k : Int) = 0) = false := decide_eq_false (by omega)
              have hm3 : ((k : Int) == 0) = false := beq_eq_false_iff_ne.2 (by omega)
              obtain ⟨gl, ol, rfl, hgl, f0⟩ := HCE.out 0 hm0
              have f1 : wk.cell? ⟨gl, ol, none⟩ = some (.int .i64 (l.getD 0 0)) := (hbk.cell (p := ⟨gl, ol, none⟩) hgl).trans f0
              have hglk : gl < wk.heap.size := Nat.lt_of_lt_of_le hgl hbk.size
              generalize l.getD 0 0 = y at *
              have k0 : ∀ i : KB wk [gl], i.v.cell? ⟨gl, ol, none⟩ = some (.int .i64 y) := fun i => (i.cell (b := gl) (by simp) _).trans f1
              have HKK : Hid (∀ w', Below wk.heap.size wk w' → ∃ i : KB wk [gl], w' = i.v) := fun w' hb => ⟨⟨w', fun z hz => by rw [List.mem_singleton] at hz; subst hz; exact hb.block _ hglk⟩, rfl⟩
              clear hbk hl0 f0 f1
              go_wp2_with fail
              refine wp_region_seg [0, 0, 0, 0, 0, 1, 3, 4, 4, 4, 4, 4, 4, 4, 4, 4, 4, 4, 4, 4, 5, 7, 8, 8, 8, 9, 11, 8, 8, 8, 99, 99, 99, 99, 99] 6 30 [gl] (by kernel_rfl) (by kernel_rfl) (by kernel_rfl) (by kernel_rfl) (by kernel_rfl) (by kernel_rfl) (by kernel_rfl) (by kernel_rfl) (fun _ _ _ _ _ h => h) ?_
              simp only [SegW, pk, Nat.reduceMul, Nat.reduceAdd, Nat.reduceBEq, cond_true, cond_false]
              repeat (go_big_quiet_step (fail))
              refine wpQuiet_nil ?_
              go_wp2_with fail
              refine ⟨HKK.out _ (Below.next HDR.out (bl_al _ _)), ?_⟩
              repeat (go_big_quiet_step (fail))
              refine wpQuiet_nil ?_
              go_wp2_with (go_at_call 12; refine (HQ2.out _ _ (Below.next HBPK.out (Below.next HDR.out (bl_al _ _))) (HNW.out wk.drew)).mono ?_; rintro e w7 ⟨rfl, hb⟩; have HB7 := hidD (Below.next (Below.next HDR.out (bl_al _ _)) hb); clear hb)
              refine ⟨HKK.out _ HB7.out, ?_⟩
              repeat (go_big_quiet_step (fail))
              refine wpQuiet_nil ?_
              go_wp2_with fail
              refine ⟨HKK.out _ (Below.next HB7.out (bl_al _ _)), ?_⟩
              repeat (go_big_quiet_step (fail))
              refine wpQuiet_nil ?_
              go_wp2_with (go_at_call 12; refine (HQ2.out _ _ (Below.next HBPK.out (Below.next HB7.out (bl_al _ _))) (HNW.out w7)).mono ?_; rintro e w8 ⟨rfl, hb⟩; have HB8 := hidD (Below.next (Below.next HB7.out (bl_al _ _)) hb); clear hb)
              refine ⟨HKK.out _ HB8.out, ?_⟩
              repeat (go_big_quiet_step (fail))
              refine wpQuiet_nil ?_
              go_wp2_with fail
              refine ⟨HKK.out _ (Below.next HB8.out (bl_al _ _)), ?_⟩
              repeat (go_big_quiet_step (fail))
              refine wpQuiet_nil ?_
              go_wp2_with (go_at_call 14; refine (HQ3.out _ _ (Below.next HBPK.out (Below.next HB8.out (bl_al _ _))) (HNW.out w8)).mono ?_; rintro e w9 ⟨u9, rfl, hi9, hb⟩; have HI9 := hidD hi9; have HB9 := hidD (Below.next (Below.next HB8.out (bl_al _ _)) hb); obtain ⟨a9, c9, h9, _⟩ := hi9; subst h9; clear hb)
              refine ⟨HKK.out _ HB9.out, ?_⟩
              repeat (go_big_quiet_step (fail))
              refine wpQuiet_nil ?_
              go_wp2_with (go_at_call 13; refine (HHS.out _ _ HI9.out).mono ?_; rintro e w10 ⟨rfl, hb⟩; have HB10 := hidD (Below.next HB9.out hb); clear hb)
              go_roundw
              case rel => exact ⟨s + 1, by omega, by omega, by go_num, Below.next HB35.out (Below.next HBK.out HB10.out)⟩
              case measure => simp [intOf]; omega
    · obtain rfl : s = n := by omega
      obtain ⟨hc1, hc2, hce⟩ : us.length ≤ c3 ∧ c3 ≤ 9223372036854775807 ∧ ∀ q, q < us.length → ∃ g o, a3 = some ⟨g, o, none⟩ ∧ g < w3.heap.size ∧ w3.cell? ⟨g, o + q, none⟩ = some (.int .i64 (us.getD q 0)) := by
        obtain ⟨a', c', e', h1', h2', h3'⟩ := HUS.out
        cases e'
        exact ⟨h1', h2', h3'⟩
      have HCE := hidD hce
      clear hce
      generalize hmm : us.length = m at *
      clear hmm
      go_wp2_with (go_at_call 10; refine HSY.out.mono ?_; rintro e w4 ⟨rfl, hw⟩; subst w4)
      go_loopw [11] (fun i wr => ∃ k : Nat, k ≤ m ∧ i = .int .i64 (k : Int) ∧ Below w3.heap.size w3 wr) (fun i _ => m - (intOf i).toNat)
      case atStart => exact ⟨0, Nat.zero_le _, rfl, HBW.out⟩
      case round =>
        obtain ⟨k, hk, rfl, hbk⟩ := hrel
        have HBK := hidD hbk
        have HB2K := hidD (Below.next HB23.out hbk)
        obtain ⟨wk, hwk⟩ : ∃ wk, wk = wr := ⟨_, rfl⟩
        subst hwk
        by_cases hkt : k < m
        · have hkti : (k : Int) < (m : Int) := by omega
          obtain ⟨gu, ou, rfl, hgu, f0⟩ := HCE.out k hkt
          have f1 : wk.cell? ⟨gu, ou + k, none⟩ = some (.int .i64 (us.getD k 0)) := (hbk.cell (p := ⟨gu, ou + k, none⟩) hgu).trans f0
          obtain ⟨b0, b1⟩ := HU2.out k hkt
          have HTE := hidD (HLW.out.ter wk.drew HB2K.out.drew)
          have HSM := hidD (HLW.out.sym wk.drew HB2K.out.drew)
          have HKK : Hid (∃ i : KB wk [gu], wk.drew = i.v) := ⟨⟨wk.drew, fun _ _ => rfl⟩, rfl⟩
          cases k with
          | zero =>
              generalize us.getD 0 0 = y at *
              have k0 : ∀ i : KB wk [gu], i.v.cell? ⟨gu, ou, none⟩ = some (.int .i64 y) := fun i => (i.cell (b := gu) (by simp) _).trans f1
              have hy0 : decide (y < (Tt : Int)) = false := decide_eq_false (by omega)
              have hy1 : decide ((s : Int) ≤ y) = false := decide_eq_false (by omega)
              clear f0 f1 hbk
              go_wp2_with fail
              refine wp_region_seg [0, 0, 0, 0, 0, 1, 2, 2, 2, 2, 2, 2, 2, 3, 4, 4, 4, 4, 4, 4, 4, 4, 4, 4, 4, 4, 4, 4, 4, 4, 4, 4] 2 32 [gu] (by kernel_rfl) (by kernel_rfl) (by kernel_rfl) (by kernel_rfl) (by kernel_rfl) (by kernel_rfl) (by kernel_rfl) (by kernel_rfl) (fun _ _ _ _ _ h => h) ?_
              simp only [SegW, pk, Nat.reduceMul, Nat.reduceAdd, Nat.reduceBEq, cond_true, cond_false]
              repeat (go_big_quiet_step (fail))
              refine wpQuiet_nil ?_
              go_wp2_with (go_at_call 9; refine HTE.out.mono ?_; rintro e w6 ⟨rfl, hw⟩; subst w6)
              refine ⟨HKK.out, ?_⟩
              repeat (go_big_quiet_step (fail))
              refine wpQuiet_nil ?_
              go_wp2_with (go_at_call 10; refine HSM.out.mono ?_; rintro e w6 ⟨rfl, hw⟩; subst w6)
              refine ⟨HKK.out, ?_⟩
              repeat (go_big_quiet_step (fail))
              refine wpQuiet_nil ?_
              go_wp2_with fail
              go_roundw
              case rel => exact ⟨1, by omega, by go_num, HBK.out.drew⟩
              case measure => simp [intOf]; omega
          | succ k =>
              obtain ⟨g2, o2, e2, _, f2⟩ := HCE.out k (by omega)
              cases e2
              have f3 : wk.cell? ⟨gu, ou + k, none⟩ = some (.int .i64 (us.getD k 0)) := (hbk.cell (p := ⟨gu, ou + k, none⟩) hgu).trans f2
              have hri := HU3.out k hkt
              generalize us.getD (k + 1) 0 = y at *
              generalize us.getD k 0 = z at *
              have k0 : ∀ i : KB wk [gu], i.v.cell? ⟨gu, ou + (k + 1), none⟩ = some (.int .i64 y) := fun i => (i.cell (b := gu) (by simp) _).trans f1
              have k1 : ∀ i : KB wk [gu], i.v.cell? ⟨gu, ou + k, none⟩ = some (.int .i64 z) := fun i => (i.cell (b := gu) (by simp) _).trans f3
              have hy0 : decide (y < (Tt : Int)) = false := decide_eq_false (by omega)
              have hy1 : decide ((s : Int) ≤ y) = false := decide_eq_false (by omega)
              have hy2 : decide (y ≤ z) = false := decide_eq_false (by omega)
              clear f0 f1 f2 f3 hbk
              go_wp2_with fail
              refine wp_region_seg [0, 0, 0, 0, 0, 1, 2, 2, 2, 2, 2, 2, 2, 3, 4, 4, 4, 4, 4, 4, 4, 4, 4, 4, 4, 4, 4, 4, 4, 4, 4, 4] 2 32 [gu] (by kernel_rfl) (by kernel_rfl) (by kernel_rfl) (by kernel_rfl) (by kernel_rfl) (by kernel_rfl) (by kernel_rfl) (by kernel_rfl) (fun _ _ _ _ _ h => h) ?_
              simp only [SegW, pk, Nat.reduceMul, Nat.reduceAdd, Nat.reduceBEq, cond_true, cond_false]
              repeat (go_big_quiet_step (fail))
              refine wpQuiet_nil ?_
              go_wp2_with (go_at_call 9; refine HTE.out.mono ?_; rintro e w6 ⟨rfl, hw⟩; subst w6)
              refine ⟨HKK.out, ?_⟩
              repeat (go_big_quiet_step (fail))
              refine wpQuiet_nil ?_
              go_wp2_with (go_at_call 10; refine HSM.out.mono ?_; rintro e w6 ⟨rfl, hw⟩; subst w6)
              refine ⟨HKK.out, ?_⟩
              repeat (go_big_quiet_step (fail))
              refine wpQuiet_nil ?_
              go_wp2_with fail
              go_roundw
              case rel => exact ⟨k + 1 + 1, by omega, by go_num, HBK.out.drew⟩
              case measure => simp [intOf]; omega
        · obtain rfl : k = m := by omega
          go_wp2_with fail
          go_ret
          exact ⟨rfl, Below.next HB3.out HBK.out⟩
theorem lasts_any (x : Tx) (hx : x.length ≤ maxLen) (mx : Int) (w : World) (h00 : 0 < w.heap.size) (hm : w.cell? ⟨0, 0, none⟩ = some (.int .i64 mx)) : Calls Tryd.prog 3 #[encT x] w fun e w' => e = .returned (.bool true) ∧ Below w.heap.size w w' := by
  by_cases hE : (prR x).2 = 0
  · exact lasts_ok x hx hE mx w h00 hm
  · exact lasts_bad x hx hE mx w h00 hm
end Go.Proofs.YtgmbkelmgolkpabDoor
