/- What New of the codes answers, and Generator. -/
import Derived.Test.YtdpkeffkpecmjaaRsa
import Derived.Test.YtdpkeffkpecmjaaRts
namespace Go.Proofs.Ytdpkeffkpecmjaa
open Go.RowKit
set_option linter.unusedVariables false

/-- The generator's first k factors. -/
def genTo (f : Nat) : Nat → List UInt8
  | 0 => [1]
  | k + 1 => mulS 29 (genTo f k) [pwI 29 2 ((f : Int) + (k : Int)), 1]
theorem gen_ok (f : Nat) : ∀ k, (genTo f k).length = k + 1 ∧ cf (genTo f k) k = 1
  | 0 => ⟨rfl, rfl⟩
  | k + 1 => by
    obtain ⟨hl, ht⟩ := gen_ok f k
    have h2 : trimS [pwI 29 2 ((f : Int) + (k : Int)), 1] = [pwI 29 2 ((f : Int) + (k : Int)), 1] := (root_left one_d [] _).1
    have h1 : trimS (genTo f k) = genTo f k := trim_id (.inr (by rw [hl, Nat.add_sub_cancel, ht]; decide))
    have hne : genTo f k ≠ [] := fun h => by rw [h] at hl; cases hl
    have hm : genTo f (k + 1) = timesS 29 (genTo f k) [pwI 29 2 ((f : Int) + (k : Int)), 1] := by
      rw [genTo, mulS, h1, h2, if_neg (by simp [hne])]
    refine ⟨by rw [hm, timesS]; simp [hl], ?_⟩
    rw [hm, cf_times, hl]
    have := part_top (P := 29) (p := genTo f k) (q := [pwI 29 2 ((f : Int) + (k : Int)), 1]) k (by simp)
    simp only [List.length_cons, List.length_nil] at this
    rw [show k + (0 + 1 + 1) - 1 = k + 1 by omega] at this
    rw [this, ht]
    exact one_bm 29 _
theorem gen_trim (f k : Nat) : trimS (genTo f k) = genTo f k := trim_id (.inr (by rw [(gen_ok f k).1, Nat.add_sub_cancel, (gen_ok f k).2]; decide))
theorem gen_ne (f k : Nat) : trimS (genTo f k) ≠ [] := fun h => by
  rw [gen_trim] at h
  have := (gen_ok f k).1
  rw [h] at this; cases this

/-- A code lies in a block. -/
structure CdAt (w : World) (c p f : Nat) : Prop where
  lt : c < w.heap.size
  c0 : w.cell? ⟨c, 0, none⟩ = some (.int .i64 p)
  c1 : w.cell? ⟨c, 1, none⟩ = some (.int .i64 f)
  rest : ∃ v b, w.cell? ⟨c, 2, none⟩ = some v ∧ w.cell? ⟨c, 3, none⟩ = some (.pointer (some ⟨b, 0, none⟩)) ∧ SlAt w v (genTo f p) ∧ FdAt w b 29 2
theorem CdAt.next {w w' : World} {c p f : Nat} (h : CdAt w c p f) (hb : Below w.heap.size w w') : CdAt w' c p f := by
  obtain ⟨v, b, h2, h3, h4, h5⟩ := h.rest
  exact ⟨Nat.lt_of_lt_of_le h.lt hb.size, (hb.cell (p := ⟨c, 0, none⟩) h.lt).trans h.c0, (hb.cell (p := ⟨c, 1, none⟩) h.lt).trans h.c1, v, b, (hb.cell (p := ⟨c, 2, none⟩) h.lt).trans h2, (hb.cell (p := ⟨c, 3, none⟩) h.lt).trans h3, h4.next hb, h5.next hb⟩
theorem CdAt.new (w : World) (p f b : Nat) (v : Value) (hs : SlAt w v (genTo f p)) (hf : FdAt w b 29 2) (t : TypeId) : CdAt (w.alloc (.cells #[.int .i64 p, .int .i64 f, v, .pointer (some ⟨b, 0, none⟩)] t)) w.heap.size p f := by
  have hb : Below w.heap.size w (w.alloc (.cells #[.int .i64 p, .int .i64 f, v, .pointer (some ⟨b, 0, none⟩)] t)) := (Below.refl _ _).alloc (Nat.le_refl _) _
  have hh := heap_alloc_last w (.cells #[.int .i64 p, .int .i64 f, v, .pointer (some ⟨b, 0, none⟩)] t)
  exact ⟨row_lt hh, by rw [cell_of_row _ _ _ _ _ _ hh]; rfl, by rw [cell_of_row _ _ _ _ _ _ hh]; rfl, v, b, by rw [cell_of_row _ _ _ _ _ _ hh]; rfl, by rw [cell_of_row _ _ _ _ _ _ hh]; rfl, hs.next hb, hf.next hb⟩

set_option maxRecDepth 100000 in
set_option maxHeartbeats 800000 in
theorem rsnew_out (p f : Int) (h : ¬ (1 ≤ p ∧ p ≤ 254 ∧ 0 ≤ f ∧ f ≤ 254)) (w : World) : Calls Try.prog 30 #[.int .i64 p, .int .i64 f] w fun e w' => e = .returned (.tuple #[.pointer none, .int .i64 1]) ∧ Below w.heap.size w w' := by
  have HW : Hid (Below w.heap.size w w) := Below.refl _ _
  by_cases h1 : p < 1
  · go_enter Try.func30, Try.ntmps30
    go_wp2_with fail
    refine bodyPost_ret (v := .tuple #[.pointer none, .int .i64 1]) (by simp [results, Try.results30, go_sem]) rfl ?_
    exact ⟨rfl, HW.out⟩
  · by_cases h2 : 254 < p
    · go_enter Try.func30, Try.ntmps30
      go_wp2_with fail
      refine bodyPost_ret (v := .tuple #[.pointer none, .int .i64 1]) (by simp [results, Try.results30, go_sem]) rfl ?_
      exact ⟨rfl, HW.out⟩
    · by_cases h3 : f < 0
      · go_enter Try.func30, Try.ntmps30
        go_wp2_with fail
        refine bodyPost_ret (v := .tuple #[.pointer none, .int .i64 1]) (by simp [results, Try.results30, go_sem]) rfl ?_
        exact ⟨rfl, HW.out⟩
      · have h4 : 254 < f := by omega
        go_enter Try.func30, Try.ntmps30
        go_wp2_with fail
        refine bodyPost_ret (v := .tuple #[.pointer none, .int .i64 1]) (by simp [results, Try.results30, go_sem]) rfl ?_
        exact ⟨rfl, HW.out⟩

set_option maxRecDepth 100000 in
set_option maxHeartbeats 1600000 in
theorem rsnew_ok (p f : Nat) (h1 : 1 ≤ p) (h2 : p ≤ 254) (h3 : f ≤ 254) (w : World) : Calls Try.prog 30 #[.int .i64 p, .int .i64 f] w fun e w' => ∃ c, e = .returned (.tuple #[.pointer (some ⟨c, 0, none⟩), .int .i64 0]) ∧ w.heap.size ≤ c ∧ CdAt w' c p f ∧ Below w.heap.size w w' := by
  have HN := hidD (new_ok 29 2 285 (by decide) irr_d one_d w)
  have HGE := hidD (fun k => gen_ok f k)
  have HGN := hidD (fun k => gen_ne f k)
  have h1' : ¬ (p : Int) < 1 := by omega
  have h2' : ¬ (254 : Int) < p := by omega
  have h3' : ¬ (254 : Int) < f := by omega
  have h4' : ¬ (f : Int) < 0 := by omega
  have HX : Hid (∀ (b : Nat) (n : Int) (w : World), FdAt w b 29 2 → Calls Try.prog 40 #[.pointer (some ⟨b, 0, none⟩), .int .i64 n] w fun e w' => e = .returned (.int .u8 ((pwI 29 2 n).toNat : Int)) ∧ Below w.heap.size w w') := fun b n w hf => exp_any n w hf
  have HT2 : Hid (∀ x : UInt8, trimS [x, 1] ≠ []) := fun x => by rw [(root_left one_d [] x).1]; simp
  go_enter Try.func30, Try.ntmps30
  go_wp2_with (go_at_call 50; refine HN.out.mono ?_; rintro e w2 ⟨fb, rfl, hfb, hf2, hb2⟩; have HF2 := hidD hf2; have HB2 := hidD hb2; clear hf2 hb2)
  all_goals
    have HS0 := hidD (sl_new w2 [1] #[.int .u8 1] 1 rfl rfl (by omega))
    have HB3 : Hid (Below w2.heap.size w2 (w2.alloc (.cells #[.int .u8 1] (5 : TypeId)))) := (Below.refl _ _).alloc (Nat.le_refl _) _
    go_loopw [8, 9, 30] (fun g _ i wr => ∃ k : Nat, k ≤ p ∧ i = .int .i64 k ∧ SlAt wr g (genTo f k) ∧ Below w2.heap.size w2 wr) (fun _ _ i _ => p - (intOf i).toNat)
    case atStart => exact ⟨0, Nat.zero_le _, rfl, HS0.out, HB3.out⟩
    case round =>
      obtain ⟨k, hk, rfl, hsl, hbel⟩ := hrel
      have HSL := hidD hsl
      have HBL := hidD hbel
      clear hsl hbel
      by_cases hlt : k < p
      · have hlti : (k : Int) < p := by omega
        go_wp2_with (first
          | (go_at_call 40; refine (HX.out _ _ _ (HF2.out.next HBL.out)).mono ?_; rintro e w5 ⟨rfl, hb5⟩; have HB5 := hidD hb5; clear hb5; have HSN := hidD (sl_new w5 [pwI 29 2 ((f : Int) + (k : Int)), 1] #[.int .u8 ((pwI 29 2 ((f : Int) + (k : Int))).toNat : Int), .int .u8 1] 2 rfl rfl (by omega)))
          | (go_at_call 51; refine (times_some one_d (genTo f k) [pwI 29 2 ((f : Int) + (k : Int)), 1] (HGN.out k) (HT2.out _) (by rw [(HGE.out k).1]; simp; omega) _ _ _ ((HF2.out.next HBL.out).next (Below.next HB5.out ((Below.refl _ _).alloc (Nat.le_refl _) _))) (HSL.out.next (Below.next HB5.out ((Below.refl _ _).alloc (Nat.le_refl _) _))) HSN.out).mono ?_; rintro e w6 ⟨v6, rfl, hs6, hb6⟩; have HS6 := hidD hs6; have HB6 := hidD (Below.next HB5.out (Below.next ((Below.refl _ _).alloc (Nat.le_refl _) _) hb6)); clear hs6 hb6))
        go_roundw
        case rel => exact ⟨k + 1, by omega, by go_num, HS6.out, Below.next HBL.out HB6.out⟩
        case measure => simp [intOf]; omega
      · obtain rfl : k = p := by omega
        obtain ⟨a8, c8, hu8, _, _⟩ := HSL.out.shape
        subst hu8
        have HCN := hidD (fun t => CdAt.new wr k f fb _ HSL.out (HF2.out.next HBL.out) t)
        go_wp2_with fail
        refine bodyPost_ret (v := .tuple #[.pointer (some ⟨wr.heap.size, 0, none⟩), .int .i64 0]) (by simp [results, Try.results30, go_sem]) rfl ?_
        exact ⟨_, rfl, Nat.le_trans HB2.out.size HBL.out.size, HCN.out _, Below.next HB2.out (Below.next HBL.out ((Below.refl _ _).alloc (Nat.le_refl _) _))⟩

set_option maxRecDepth 100000 in
set_option maxHeartbeats 800000 in
theorem generator_nil (w : World) : Calls Try.prog 17 #[.pointer none] w fun e w' => e = .returned (.slice none 0 0) ∧ Below w.heap.size w w' := by
  have HW : Hid (Below w.heap.size w w) := Below.refl _ _
  go_enter Try.func17, Try.ntmps17
  go_wp2_with fail
  go_ret
  exact ⟨rfl, HW.out⟩
set_option maxRecDepth 100000 in
set_option maxHeartbeats 800000 in
theorem generator_any {c p f : Nat} (hp : p ≤ 254) (w : World) (hc : CdAt w c p f) : Calls Try.prog 17 #[.pointer (some ⟨c, 0, none⟩)] w fun e w' => e = .returned (.slice (some ⟨w.heap.size, 0, none⟩) (p + 1) (p + 1)) ∧ RowAt w' w.heap.size (genTo f p) ∧ Below w.heap.size w w' := by
  obtain ⟨v, b, h2, h3, h4, h5⟩ := hc.rest
  have HC := hidD (copyOf_any (genTo f p) (by rw [(gen_ok f p).1]; omega) v w h4)
  rw [(gen_ok f p).1] at HC
  clear hc h3 h4 h5
  go_enter Try.func17, Try.ntmps17
  go_wp2_with (go_at_call 44; refine HC.out.mono ?_; rintro e w2 ⟨rfl, hr2, hb2⟩; have HR2 := hidD hr2; have HB2 := hidD hb2; clear hr2 hb2)
  go_ret
  exact ⟨rfl, HR2.out, HB2.out⟩
end Go.Proofs.Ytdpkeffkpecmjaa
