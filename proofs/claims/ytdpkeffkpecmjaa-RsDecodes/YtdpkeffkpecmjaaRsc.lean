/- What Syndromes and Good answer. -/
import Derived.Test.YtdpkeffkpecmjaaRsb
import Derived.Test.YtdpkeffkpecmjaaGa
namespace Go.Proofs.Ytdpkeffkpecmjaa
open Go.RowKit
set_option linter.unusedVariables false

/-- The i-th syndrome of a word. -/
def syn (f : Nat) (word : List UInt8) (i : Nat) : UInt8 := evalS 29 (pwI 29 2 ((f : Int) + (i : Int))) word.reverse
/-- The syndromes, of which k are there. -/
def synTo (f p : Nat) (word : List UInt8) (k : Nat) : List UInt8 := (List.range p).map fun i => if i < k then syn f word i else 0
/-- The syndromes. -/
def syns (f p : Nat) (word : List UInt8) : List UInt8 := (List.range p).map (syn f word)
theorem synTo_length (f p : Nat) (word : List UInt8) (k : Nat) : (synTo f p word k).length = p := by simp [synTo]
theorem synTo_zero (f p : Nat) (word : List UInt8) : synTo f p word 0 = List.replicate p 0 := cf_ext (by simp [synTo]) fun i hi => by
  rw [cf_zeros, synTo, cf_map]; simp
theorem synTo_all (f p : Nat) (word : List UInt8) : synTo f p word p = syns f p word := cf_ext (by simp [synTo, syns]) fun i hi => by
  rw [synTo_length] at hi
  rw [synTo, syns, cf_map, cf_map, if_pos hi, if_pos hi]
theorem synTo_set (f p : Nat) (word : List UInt8) (k : Nat) (hk : k < p) : (synTo f p word k).set k (syn f word k) = synTo f p word (k + 1) := cf_ext (by simp [synTo]) fun i hi => by
  rw [List.length_set, synTo_length] at hi
  rw [cf_set _ _ _ _ (by rw [synTo_length]; exact hk), synTo, synTo, cf_map, cf_map, if_pos hi, if_pos hi]
  by_cases h1 : i = k
  · subst h1; rw [if_pos rfl, if_pos (by omega)]
  · rw [if_neg h1]
    by_cases h2 : i < k
    · rw [if_pos h2, if_pos (by omega)]
    · rw [if_neg h2, if_neg (by omega)]

set_option maxRecDepth 100000 in
set_option maxHeartbeats 800000 in
theorem syndromes_nil (v : Value) (w : World) : Calls Try.prog 14 #[.pointer none, v] w fun e w' => e = .returned (.tuple #[.slice none 0 0, .int .i64 2]) ∧ Below w.heap.size w w' := by
  have HW : Hid (Below w.heap.size w w) := Below.refl _ _
  go_enter Try.func14, Try.ntmps14
  go_wp2_with fail
  refine bodyPost_ret (v := .tuple #[.slice none 0 0, .int .i64 2]) (by simp [results, Try.results14, go_sem]) rfl ?_
  exact ⟨rfl, HW.out⟩
set_option maxRecDepth 100000 in
set_option maxHeartbeats 800000 in
theorem syndromes_short {c p f : Nat} (word : List UInt8) (h : word.length ≤ p) (v : Value) (w : World) (hc : CdAt w c p f) (hv : SlAt w v word) : Calls Try.prog 14 #[.pointer (some ⟨c, 0, none⟩), v] w fun e w' => e = .returned (.tuple #[.slice none 0 0, .int .i64 1]) ∧ Below w.heap.size w w' := by
  have HW : Hid (Below w.heap.size w w) := Below.refl _ _
  obtain ⟨⟨a, ca, rfl, hca1, hca2⟩, hpb⟩ := hv
  have h0 := hc.c0
  have h' : (word.length : Int) ≤ p := by omega
  clear hc hpb
  generalize word.length = n at *
  go_enter Try.func14, Try.ntmps14
  go_wp2_with fail
  refine bodyPost_ret (v := .tuple #[.slice none 0 0, .int .i64 1]) (by simp [results, Try.results14, go_sem]) rfl ?_
  exact ⟨rfl, HW.out⟩
set_option maxRecDepth 100000 in
set_option maxHeartbeats 800000 in
theorem syndromes_long {c p f : Nat} (word : List UInt8) (h : p < word.length) (h2 : 255 < word.length) (v : Value) (w : World) (hc : CdAt w c p f) (hv : SlAt w v word) : Calls Try.prog 14 #[.pointer (some ⟨c, 0, none⟩), v] w fun e w' => e = .returned (.tuple #[.slice none 0 0, .int .i64 3]) ∧ Below w.heap.size w w' := by
  have HW : Hid (Below w.heap.size w w) := Below.refl _ _
  obtain ⟨⟨a, ca, rfl, hca1, hca2⟩, hpb⟩ := hv
  have h0 := hc.c0
  have h' : ¬ (word.length : Int) ≤ p := by omega
  have h2' : (255 : Int) < word.length := by omega
  clear hc hpb
  generalize word.length = n at *
  go_enter Try.func14, Try.ntmps14
  go_wp2_with fail
  refine bodyPost_ret (v := .tuple #[.slice none 0 0, .int .i64 3]) (by simp [results, Try.results14, go_sem]) rfl ?_
  exact ⟨rfl, HW.out⟩

set_option maxRecDepth 100000 in
set_option maxHeartbeats 1600000 in
theorem syndromes_ok {c p f : Nat} (hp : p ≤ 254) (hf : f ≤ 254) (word : List UInt8) (h : p < word.length) (h2 : word.length ≤ 255) (v : Value) (w : World) (hc : CdAt w c p f) (hv : SlAt w v word) :
    Calls Try.prog 14 #[.pointer (some ⟨c, 0, none⟩), v] w fun e w' => ∃ g, e = .returned (.tuple #[.slice (some ⟨g, 0, none⟩) p p, .int .i64 0]) ∧ w.heap.size ≤ g ∧ RowAt w' g (syns f p word) ∧ Below w.heap.size w w' := by
  have HCO := hidD (coefficients_any word (by omega) v w hv)
  have HCD := hidD hc
  have HLN := hidD (synTo_length f p word)
  have HZ := hidD (synTo_zero f p word)
  have HAL := hidD (synTo_all f p word)
  have HST := hidD (synTo_set f p word)
  have HCL := hidD hc.lt
  have HRL : Hid (word.reverse.length = word.length) := List.length_reverse
  obtain ⟨⟨a, ca, rfl, hca1, hca2⟩, hpb⟩ := hv
  obtain ⟨gv, b, hg2, hg3, hg4, hg5⟩ := hc.rest
  have h0 := hc.c0
  have h1 := hc.c1
  have HFD := hidD hg5
  have h' : ¬ (word.length : Int) ≤ p := by omega
  have h2' : ¬ (255 : Int) < word.length := by omega
  have HXE : Hid (∀ (i : Nat) (v : Value) (w' : World), FdAt w' b 29 2 → SlAt w' v word.reverse → Calls Try.prog 39 #[.pointer (some ⟨b, 0, none⟩), v, .int .u8 ((pwI 29 2 ((f : Int) + (i : Int))).toNat : Int)] w' fun e w'' => e = .returned (.int .u8 ((syn f word i).toNat : Int)) ∧ Below w'.heap.size w' w'') := fun i v w' h1 h2 => eval_any one_d word.reverse _ v w' h1 h2
  clear hc hpb hg4 hg5 hg2
  generalize word.length = n at *
  obtain ⟨i0, hi, hz0, hz1, hz2⟩ := info_parts Try.info5
  go_enter Try.func14, Try.ntmps14
  go_wp2_with (first
    | (go_at_call 35; refine HCO.out.mono ?_; rintro e w2 ⟨rfl, hr2, hb2⟩; have HR2 := hidD hr2; have HB2 := hidD hb2; have j0 : w2.cell? ⟨c, 0, none⟩ = some (.int .i64 p) := (hb2.cell (p := ⟨c, 0, none⟩) HCL.out).trans h0; clear hr2 hb2)
    | (at_make; refine wpList_make_full _ rfl _ _ 22 rfl w2.heap.size 5 i0 (.int .u8 0) 1 Try.underlying22 hi hz0 hz1 _ _ _ _ p rfl rfl (by omega) (by omega) (by rw [hz2]; omega) (by unfold maxLen; omega) (Nat.le_refl _) ?_; intro w3 hown3 hg3; have HR3 := hidD (row_of_made hown3); have HB3 : Hid (Below w2.heap.size w2 w3) := ((Below.refl w2.heap.size w2).grown hg3 (Nat.le_refl _) (fun k hk => by cases hk)); clear hown3 hg3))
  all_goals
    have HR4 : Hid (RowAt w3 w2.heap.size (synTo f p word 0)) := by rw [HZ.out]; exact HR3.out
    clear HR3
    generalize hgg : w2.heap.size = g at *
    have HGG := hidD hgg
    clear hgg
    go_loopw [8, 30] (fun _ i wr => ∃ k : Nat, k ≤ p ∧ i = .int .i64 k ∧ RowAt wr g (synTo f p word k) ∧ Below g w2 wr) (fun _ i _ => p - (intOf i).toNat)
    case atStart => exact ⟨0, Nat.zero_le _, rfl, HR4.out, HB3.out⟩
    case round =>
      obtain ⟨k, hk, rfl, hrow, hbel⟩ := hrel
      have HBL := hidD hbel
      have HRW := hidD hrow
      have HWG : Hid (w.heap.size ≤ g) := by rw [← HGG.out]; exact HB2.out.size
      have HBW : Hid (Below w.heap.size w wr) := HB2.out.trans (hbel.mono HWG.out)
      by_cases hlt : k < p
      · have hlti : (k : Int) < p := by omega
        have HKK : Hid (∀ wB, Below wr.heap.size wr wB → ∃ i : KB wr [c], wB = i.v) := fun wB hb => ⟨⟨wB, fun x hx => by
          rw [show x = c by simpa using hx]
          exact hb.block _ (Nat.lt_of_lt_of_le HCL.out HBW.out.size)⟩, rfl⟩
        have f1 : ∀ i : KB wr [c], i.v.cell? ⟨c, 1, none⟩ = some (.int .i64 f) := fun i => ((i.cell (b := c) (by simp) _).trans (HBW.out.cell (p := ⟨c, 1, none⟩) HCL.out)).trans h1
        have f3 : ∀ i : KB wr [c], i.v.cell? ⟨c, 3, none⟩ = some (.pointer (some ⟨b, 0, none⟩)) := fun i => ((i.cell (b := c) (by simp) _).trans (HBW.out.cell (p := ⟨c, 3, none⟩) HCL.out)).trans hg3
        have HDR : Hid (Below wr.heap.size wr wr.drew) := (Below.refl _ _).drew
        have HFR : Hid (∀ wB, Below wr.heap.size wr wB → FdAt wB b 29 2) := fun wB hb => (HFD.out.next HBW.out).next hb
        have HSR : Hid (∀ wB, Below wr.heap.size wr wB → SlAt wB (.slice (some ⟨w.heap.size, 0, none⟩) n n) word.reverse) := fun wB hb => ((SlAt.row HR2.out HRL.out.symm (by omega)).next (by rw [HGG.out]; exact HBL.out)).next hb
        have HE := hidD (HXE.out k)
        have HX : Hid (∀ wB, Below wr.heap.size wr wB → Calls Try.prog 40 #[.pointer (some ⟨b, 0, none⟩), .int .i64 ((f : Int) + (k : Int))] wB fun e w' => e = .returned (.int .u8 ((pwI 29 2 ((f : Int) + (k : Int))).toNat : Int)) ∧ Below wB.heap.size wB w') := fun wB hb => exp_any _ wB (HFR.out wB hb)
        have HS := hidD (HST.out k hlt)
        generalize syn f word k = s at *
        generalize (pwI 29 2 ((f : Int) + (k : Int))).toNat = x at *
        clear hrow hbel
        go_wp2_with fail
        refine wp_region_seg [0, 0, 0, 0, 0, 0, 0, 0, 0, 0, 0, 0, 0, 0, 0, 0, 0, 1, 3, 4, 99] 2 20 [c] (by kernel_rfl) (by kernel_rfl) (by kernel_rfl) (by kernel_rfl) (by kernel_rfl) (by kernel_rfl) (by kernel_rfl) (by kernel_rfl) (fun _ _ _ _ _ h => h) ?_
        simp only [SegW, pk, Nat.reduceMul, Nat.reduceAdd, Nat.reduceBEq, cond_true, cond_false]
        repeat (go_big_quiet_step (fail))
        refine wpQuiet_nil ?_
        go_wp2_with (go_at_call 40; refine (HX.out _ HDR.out).mono ?_; rintro e w5 ⟨rfl, hb5⟩)
        have HB5 : Hid (Below wr.heap.size wr w5) := HDR.out.trans hb5
        clear hb5
        refine ⟨HKK.out _ HB5.out, ?_⟩
        repeat (go_big_quiet_step (fail))
        refine wpQuiet_nil ?_
        go_wp2_with (go_at_call 39; refine (HE.out _ _ (HFR.out _ HB5.out) (HSR.out _ HB5.out)).mono ?_; rintro e w6 ⟨rfl, hb6⟩)
        have HB6 := hidD (Below.next HB5.out hb6)
        clear hb6
        refine ⟨HKK.out _ HB6.out, ?_⟩
        repeat (go_big_quiet_step (fail))
        refine wpQuiet_nil ?_
        have HR6 := hidD (HRW.out.next HB6.out)
        have k6 : ∃ u, w6.cell? ⟨g, k, none⟩ = some u := ⟨_, HR6.out.cell (by rw [HLN.out]; omega)⟩
        obtain ⟨u6, k6⟩ := k6
        have l6 := HR6.out.frozen k
        have HN6 := hidD (HR6.out.set k s)
        rw [HS.out] at HN6
        go_wp2_with fail
        go_roundw
        case rel => exact ⟨k + 1, by omega, by go_num, HN6.out, (HBL.out.trans (HB6.out.mono (by have := HRW.out.lt; omega))).setCell (p := ⟨g, k, none⟩) (Nat.le_refl _) _⟩
        case measure => simp [intOf]; omega
      · obtain rfl : k = p := by omega
        rw [HAL.out] at HRW
        clear hrow hbel
        go_wp2_with fail
        refine bodyPost_ret (v := .tuple #[.slice (some ⟨g, 0, none⟩) k k, .int .i64 0]) (by simp [results, Try.results14, go_sem]) rfl ?_
        exact ⟨g, rfl, HWG.out, HRW.out, HBW.out⟩

/-- Is the word a good one? -/
def goodS (f p : Nat) (word : List UInt8) : Bool := decide (p < word.length) && (decide (word.length ≤ 255) && (syns f p word).all (· == 0))
theorem all_to {l : List UInt8} (h : ∀ i, i < l.length → cf l i = 0) : l.all (· == 0) = true := by
  rw [List.all_eq_true]
  intro x hx
  obtain ⟨i, hi, rfl⟩ := List.getElem_of_mem hx
  have := h i hi
  rw [cf, List.getD_eq_getElem?_getD, List.getElem?_eq_getElem hi] at this
  simpa using this
theorem all_not {l : List UInt8} {i : Nat} (hi : i < l.length) (h : cf l i ≠ 0) : l.all (· == 0) = false := by
  cases ha : l.all (· == 0) with
  | false => rfl
  | true =>
    rw [List.all_eq_true] at ha
    have := ha l[i] (List.getElem_mem hi)
    rw [cf, List.getD_eq_getElem?_getD, List.getElem?_eq_getElem hi] at h
    exact absurd (by simpa using this) h

set_option maxRecDepth 100000 in
set_option maxHeartbeats 800000 in
theorem good_nil (v : Value) (w : World) : Calls Try.prog 19 #[.pointer none, v] w fun e w' => e = .returned (.bool false) ∧ Below w.heap.size w w' := by
  have HS := hidD (syndromes_nil v w)
  go_enter Try.func19, Try.ntmps19
  go_wp2_with (go_at_call 14; refine HS.out.mono ?_; rintro e w2 ⟨rfl, hb2⟩; have HB2 := hidD hb2; clear hb2)
  go_ret
  exact ⟨rfl, HB2.out⟩
set_option maxRecDepth 100000 in
set_option maxHeartbeats 1600000 in
theorem good_any {c p f : Nat} (hp : p ≤ 254) (hf : f ≤ 254) (word : List UInt8) (v : Value) (w : World) (hc : CdAt w c p f) (hv : SlAt w v word) :
    Calls Try.prog 19 #[.pointer (some ⟨c, 0, none⟩), v] w fun e w' => e = .returned (.bool (goodS f p word)) ∧ Below w.heap.size w w' := by
  by_cases h : p < word.length
  · by_cases h2 : word.length ≤ 255
    · have HS := hidD (syndromes_ok hp hf word h h2 v w hc hv)
      have HLN : Hid ((syns f p word).length = p) := by show _ = _; simp [syns]
      have HG : Hid (goodS f p word = (syns f p word).all (· == 0)) := by show _ = _; unfold goodS; rw [decide_eq_true h, decide_eq_true h2]; rfl
      have HA := hidD (fun h => all_to (l := syns f p word) h)
      have HNO := hidD (fun i hi h => all_not (l := syns f p word) (i := i) hi h)
      clear hc hv
      generalize syns f p word = S at *
      generalize goodS f p word = B at *
      go_enter Try.func19, Try.ntmps19
      go_wp2_with (go_at_call 14; refine HS.out.mono ?_; rintro e w2 ⟨g, rfl, hg, hr2, hb2⟩; have HR2 := hidD hr2; have HB2 := hidD hb2; clear hr2 hb2)
      all_goals
        go_loopw [8, 19] (fun _ i wr => ∃ k : Nat, k ≤ p ∧ i = .int .i64 k ∧ (∀ i, i < k → cf S i = 0) ∧ wr = w2) (fun _ i _ => p - (intOf i).toNat)
        case atStart => exact ⟨0, Nat.zero_le _, rfl, fun i hi => absurd hi (by omega), rfl⟩
        case round =>
          obtain ⟨k, hk, rfl, hz, rfl⟩ := hrel
          have HZ := hidD hz
          clear hz
          by_cases hlt : k < p
          · have hlti : (k : Int) < p := by omega
            have hcc : wr.cell? ⟨g, k, none⟩ = some (.int .u8 ((cf S k).toNat : Int)) := HR2.out.cell (by rw [HLN.out]; omega)
            by_cases h0 : cf S k = 0
            · rw [h0] at hcc
              go_wp2_with fail
              go_roundw
              case rel => exact ⟨k + 1, by omega, by go_num, fun i hi => by
                by_cases he : i = k
                · rw [he]; exact h0
                · exact HZ.out i (by omega), trivial⟩
              case measure => simp [intOf]; omega
            · have hne := u8_ne h0
              have hbne := u8_bne h0
              have HNK := hidD (HNO.out k (by rw [HLN.out]; omega) h0)
              clear h0
              generalize (cf S k).toNat = x at *
              go_wp2_with fail
              go_ret
              exact ⟨by rw [HG.out, HNK.out]; rfl, HB2.out⟩
          · obtain rfl : k = p := by omega
            have HAK := hidD (HA.out (fun i hi => HZ.out i (by rw [HLN.out] at hi; exact hi)))
            go_wp2_with fail
            go_ret
            exact ⟨by rw [HG.out, HAK.out]; rfl, HB2.out⟩
    · have HS := hidD (syndromes_long word h (by omega) v w hc hv)
      have HG : Hid (goodS f p word = false) := by show _ = _; unfold goodS; rw [decide_eq_false h2]; simp
      clear hc hv
      generalize goodS f p word = B at *
      go_enter Try.func19, Try.ntmps19
      go_wp2_with (go_at_call 14; refine HS.out.mono ?_; rintro e w2 ⟨rfl, hb2⟩; have HB2 := hidD hb2; clear hb2)
      go_ret
      exact ⟨by rw [HG.out]; rfl, HB2.out⟩
  · have HS := hidD (syndromes_short word (by omega) v w hc hv)
    have HG : Hid (goodS f p word = false) := by show _ = _; unfold goodS; rw [decide_eq_false h]; simp
    clear hc hv
    generalize goodS f p word = B at *
    go_enter Try.func19, Try.ntmps19
    go_wp2_with (go_at_call 14; refine HS.out.mono ?_; rintro e w2 ⟨rfl, hb2⟩; have HB2 := hidD hb2; clear hb2)
    go_ret
    exact ⟨by rw [HG.out]; rfl, HB2.out⟩
end Go.Proofs.Ytdpkeffkpecmjaa
