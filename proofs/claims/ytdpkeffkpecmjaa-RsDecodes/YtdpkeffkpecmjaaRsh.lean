/- The locator is never empty; what locate answers. -/
import Derived.Test.YtdpkeffkpecmjaaRsg
namespace Go.Proofs.Ytdpkeffkpecmjaa
open Go.RowKit
set_option linter.unusedVariables false

theorem tidy_top {l : List UInt8} (h : Tidy l) (h0 : 0 < l.length) : cf l (l.length - 1) ≠ 0 := by
  rcases h with h | h
  · rw [h] at h0; simp at h0
  · exact h
theorem mul_size {p q : List UInt8} (hp : Tidy p) (hq : Tidy q) (h1 : 0 < p.length) (h2 : 0 < q.length) : (mulS 29 p q).length = p.length + q.length - 1 := by
  rw [mulS, trim_id hp, trim_id hq, if_neg (by rintro (h | h) <;> simp [h] at h1 h2)]
  simp [timesS]
/-- The locator of what is turned beside is never empty: each step makes it longer. -/
theorem beside_ne (p lost : Nat) : ∀ n rest next times nt, Tidy rest → Tidy next → Tidy nt → next.length < rest.length → times.length < nt.length → 0 < (besideGo p lost n rest next times nt).length
  | 0, rest, next, times, nt, _, _, _, _, h => by rw [besideGo]; omega
  | n + 1, rest, next, times, nt, h1, h2, h3, h4, h5 => by
    rw [besideGo]
    split
    · rename_i hc
      have hn0 : 0 < next.length := by omega
      have hne : trimS next ≠ [] := by rw [trim_id h2]; intro h; rw [h] at hn0; simp at hn0
      have hq : (quoS 29 rest next).length = rest.length - next.length + 1 := by
        rw [quoS, trim_id h1, trim_id h2, if_neg (by omega), (divS_len 29 rest next).2]
      have hqt : Tidy (quoS 29 rest next) := quo_tidy one_d hne
      have hm := mul_size hqt h3 (by omega) (by omega)
      have hmt : Tidy (mulS 29 (quoS 29 rest next) nt) := mul_tidy one_d _ _
      have htop := tidy_top hmt (by omega)
      have hpl : (plusS times (mulS 29 (quoS 29 rest next) nt)).length = (mulS 29 (quoS 29 rest next) nt).length := by rw [plus_len]; omega
      have hpt : Tidy (plusS times (mulS 29 (quoS 29 rest next) nt)) := .inr (by
        rw [hpl, cf_plus, cf_ge (l := times) (by omega), UInt8.zero_xor]
        exact htop)
      refine beside_ne p lost n _ _ _ _ h2 (mod_tidy _ _ _) (trim_tidy _) ?_ ?_
      · have := mod_short (P := 29) one_d (p := rest) hne
        rwa [trim_id h2] at this
      · rw [trim_id hpt, hpl]; omega
    · omega
theorem xp_tidy (p : Nat) : Tidy (xp p) := .inr (by
  have hl : (xp p).length = p + 1 := by simp [xp]
  rw [hl, Nat.add_sub_cancel, xp, cf_set _ _ _ _ (by simp), if_pos rfl]
  decide)
theorem besideS_pos (p lost : Nat) (known : List UInt8) (ht : Tidy known) (hk : known.length ≤ p) : 0 < (besideS p lost known).length :=
  beside_ne p lost _ _ _ _ _ (xp_tidy p) ht (.inr (by decide)) (by simp [xp]; omega) (by simp)

/-- A slice value of these numbers. -/
def IlAt (w : World) (v : Value) (l : List Int) : Prop := ∃ a cap, v = .slice a l.length cap ∧ l.length ≤ cap ∧ cap ≤ 9223372036854775807 ∧ ∀ k, k < l.length → ∃ g o, a = some ⟨g, o, none⟩ ∧ g < w.heap.size ∧ w.cell? ⟨g, o + k, none⟩ = some (.int .i64 (l.getD k 0))
theorem IlAt.next {w w' : World} {v : Value} {l : List Int} (h : IlAt w v l) (hb : Below w.heap.size w w') : IlAt w' v l := by
  obtain ⟨a, cap, h1, h2, h3, h4⟩ := h
  refine ⟨a, cap, h1, h2, h3, fun k hk => ?_⟩
  obtain ⟨g, o, e, hg, hc⟩ := h4 k hk
  exact ⟨g, o, e, Nat.lt_of_lt_of_le hg hb.size, (hb.cell (p := ⟨g, _, none⟩) hg).trans hc⟩
theorem IlAt.nil (w : World) : IlAt w (.slice none 0 0) [] := ⟨none, 0, rfl, Nat.le_refl _, by omega, fun k hk => absurd hk (by simp)⟩

/-- The product of the first k lost places' factors. -/
def ofTo (L : List Int) : Nat → List UInt8
  | 0 => [1]
  | k + 1 => mulS 29 (ofTo L k) [1, pwI 29 2 (L.getD k 0)]
theorem ofTo_len (L : List Int) : ∀ k, (ofTo L k).length ≤ 1 + 2 * k
  | 0 => by simp [ofTo]
  | k + 1 => by
    have h1 := ofTo_len L k
    have h2 := mul_len 29 (ofTo L k) [1, pwI 29 2 (L.getD k 0)]
    rw [ofTo]
    simp only [List.length_cons, List.length_nil] at h2
    omega
/-- What the decoder takes for the others' locator. -/
def othersS (p : Nat) (S : List UInt8) (L : List Int) : List UInt8 := besideS p L.length (lowS p (mulS 29 S (ofTo L L.length)))
/-- The locator, and whether there can be one. -/
def locS (p : Nat) (S : List UInt8) (L : List Int) : List UInt8 := mulS 29 (ofTo L L.length) (mulS 29 (othersS p S L) [inv 29 (cf (othersS p S L) 0)])
def locB (p : Nat) (S : List UInt8) (L : List Int) : Bool := decide (L.length ≤ p) && (cf (othersS p S L) 0 != 0)
theorem low_len (p : Nat) (l : List UInt8) : (lowS p l).length ≤ p := by
  have h1 := trim_len (l.take p)
  rw [List.length_take] at h1
  unfold lowS; omega
theorem others_pos (p : Nat) (S : List UInt8) (L : List Int) : 0 < (othersS p S L).length := besideS_pos p _ _ (trim_tidy _) (low_len p _)
theorem bes_len (p lost : Nat) (known : List UInt8) : ∀ k n rest next times nt, next.length ≤ k → Bes p lost known n rest next times nt → (besideS p lost known).length ≤ 65537
  | 0, n, rest, next, times, nt, hk, h => by
    rw [← h.stop (by omega)]
    have := h.lnt
    omega
  | k + 1, n, rest, next, times, nt, hk, h => by
    by_cases hc : p + lost + 2 ≤ 2 * next.length
    · obtain ⟨m, h1, h2⟩ := h.step hc
      exact bes_len p lost known k m _ _ _ _ (by omega) h2
    · rw [← h.stop hc]
      have := h.lnt
      omega
theorem others_len (p : Nat) (hp : p ≤ 254) (S : List UInt8) (L : List Int) : (othersS p S L).length ≤ 65537 :=
  bes_len p L.length _ _ _ _ _ _ _ (Nat.le_refl _) (Bes.start p L.length hp _ (trim_tidy _) (by have := low_len p (mulS 29 S (ofTo L L.length)); omega))

set_option maxRecDepth 100000 in
set_option maxHeartbeats 800000 in
theorem locate_many {c p f : Nat} (hp : p ≤ 254) (L : List Int) (hL : p < L.length) (vs vl : Value) (w : World) (hc : CdAt w c p f) (hl : IlAt w vl L) :
    Calls Try.prog 61 #[.pointer (some ⟨c, 0, none⟩), vs, vl] w fun e w' => e = .returned (.tuple #[.slice none 0 0, .bool false]) ∧ Below w.heap.size w w' := by
  have HW : Hid (Below w.heap.size w w) := Below.refl _ _
  obtain ⟨a, ca, rfl, _, hca, _⟩ := hl
  have h0 := hc.c0
  have h1 : (p : Int) < L.length := by omega
  clear hc
  generalize L.length = n at *
  go_enter Try.func61, Try.ntmps61
  go_wp2_with fail
  refine bodyPost_ret (v := .tuple #[.slice none 0 0, .bool false]) (by simp [results, Try.results61, go_sem]) rfl ?_
  exact ⟨rfl, HW.out⟩

set_option maxRecDepth 100000 in
set_option maxHeartbeats 3200000 in
theorem locate_few {c p f : Nat} (hp1 : 1 ≤ p) (hp : p ≤ 254) (S : List UInt8) (hS : S.length ≤ 255) (L : List Int) (hL : L.length ≤ p) (vs vl : Value) (w : World) (hc : CdAt w c p f) (hs : SlAt w vs S) (hl : IlAt w vl L) :
    Calls Try.prog 61 #[.pointer (some ⟨c, 0, none⟩), vs, vl] w fun e w' => ∃ v, e = .returned (.tuple #[v, .bool (cf (othersS p S L) 0 != 0)]) ∧ (cf (othersS p S L) 0 ≠ 0 → SlAt w' v (locS p S L)) ∧ Below w.heap.size w w' := by
  have HCD := hidD hc
  have HS := hidD hs
  obtain ⟨gv, b, hg2, hg3, hg4, hg5⟩ := hc.rest
  have h0 := hc.c0
  have HCL := hidD hc.lt
  have HFD := hidD hg5
  have HOL := hidD (ofTo_len L)
  have HOP := hidD (others_pos p S L)
  have HON := hidD (others_len p hp S L)
  have HLT := hidD (trim_tidy ((mulS 29 S (ofTo L L.length)).take p))
  have HLL := hidD (low_len p (mulS 29 S (ofTo L L.length)))
  have HML := hidD (mul_len 29 S (ofTo L L.length))
  have HLO : Hid (locS p S L = mulS 29 (ofTo L L.length) (mulS 29 (othersS p S L) [inv 29 (cf (othersS p S L) 0)])) := rfl
  have HOT : Hid (othersS p S L = besideS p L.length (lowS p (mulS 29 S (ofTo L L.length)))) := rfl
  have HMO := hidD (mul_len 29 (othersS p S L) [inv 29 (cf (othersS p S L) 0)])
  obtain ⟨a, ca, rfl, hca1, hca, hcell⟩ := hl
  have HCE := hidD hcell
  have h1 : ¬ (p : Int) < L.length := by omega
  have h1n : ¬ p < L.length := by omega
  have h1d : decide (p < L.length) = false := decide_eq_false h1n
  clear hc hs hg4 hg5 hg2 hcell
  generalize hn : L.length = n at *
  clear hn
  go_enter Try.func61, Try.ntmps61
  go_wp2_with fail
  have HO0 := hidD (sl_new w [1] #[.int .u8 1] 1 rfl rfl (by omega))
  have HB0 : Hid (Below w.heap.size w (w.alloc (.cells #[.int .u8 1] (5 : TypeId)))) := (Below.refl _ _).alloc (Nat.le_refl _) _
  go_loopw [8, 10, 24] (fun o _ i wr => ∃ k : Nat, k ≤ n ∧ i = .int .i64 k ∧ SlAt wr o (ofTo L k) ∧ Below w.heap.size w wr) (fun _ _ i _ => n - (intOf i).toNat)
  case atStart => exact ⟨0, Nat.zero_le _, rfl, HO0.out, HB0.out⟩
  case round =>
    obtain ⟨k, hk, rfl, hso, hbel⟩ := hrel
    have HSO := hidD hso
    have HBW := hidD hbel
    by_cases hlt : k < n
    · have hlti : (k : Int) < n := by omega
      obtain ⟨gl, ol, rfl, hgl, hcl⟩ := HCE.out k hlt
      have hcx : wr.cell? ⟨gl, ol + k, none⟩ = some (.int .i64 (L.getD k 0)) := (hbel.cell (p := ⟨gl, _, none⟩) hgl).trans hcl
      have HOK := hidD (HOL.out k)
      have HOS : Hid (ofTo L (k + 1) = mulS 29 (ofTo L k) [1, pwI 29 2 (L.getD k 0)]) := rfl
      have HKK : Hid (∀ wB, Below wr.heap.size wr wB → ∃ i : KB wr [c], wB = i.v) := fun wB hb => ⟨⟨wB, fun x hx => by
        rw [show x = c by simpa using hx]
        exact hb.block _ (Nat.lt_of_lt_of_le HCL.out HBW.out.size)⟩, rfl⟩
      have f3 : ∀ i : KB wr [c], i.v.cell? ⟨c, 3, none⟩ = some (.pointer (some ⟨b, 0, none⟩)) := fun i => ((i.cell (b := c) (by simp) _).trans (HBW.out.cell (p := ⟨c, 3, none⟩) HCL.out)).trans hg3
      have HDR : Hid (Below wr.heap.size wr wr.drew) := (Below.refl _ _).drew
      generalize L.getD k 0 = x at *
      clear hso hbel hcl
      go_wp2_with fail
      refine wp_region_seg [0, 0, 0, 0, 0, 0, 0, 0, 0, 0, 1, 3, 99, 99] 2 12 [c] (by kernel_rfl) (by kernel_rfl) (by kernel_rfl) (by kernel_rfl) (by kernel_rfl) (by kernel_rfl) (by kernel_rfl) (by kernel_rfl) (fun _ _ _ _ _ h => h) ?_
      simp only [SegW, pk, Nat.reduceMul, Nat.reduceAdd, Nat.reduceBEq, cond_true, cond_false]
      repeat (go_big_quiet_step (fail))
      refine wpQuiet_nil ?_
      go_wp2_with (go_at_call 40; refine (exp_any (P := 29) (g := 2) x _ (HFD.out.next (Below.next HBW.out HDR.out))).mono ?_; rintro e w5 ⟨rfl, hb5⟩)
      have HB5 : Hid (Below wr.heap.size wr w5) := HDR.out.trans hb5
      clear hb5
      refine ⟨HKK.out _ HB5.out, ?_⟩
      refine wpQuiet_nil ?_
      go_wp2_with fail
      have HSN := hidD (sl_new w5 [1, pwI 29 2 x] #[.int .u8 1, .int .u8 ((pwI 29 2 x).toNat : Int)] 2 rfl rfl (by omega))
      have HB6 : Hid (Below wr.heap.size wr (w5.alloc (.cells #[.int .u8 1, .int .u8 ((pwI 29 2 x).toNat : Int)] (5 : TypeId)))) := Below.next HB5.out ((Below.refl _ _).alloc (Nat.le_refl _) _)
      refine ⟨HKK.out _ HB6.out, ?_⟩
      refine wpQuiet_nil ?_
      go_wp2_with (go_at_call 51; refine (times_any one_d (ofTo L k) [1, pwI 29 2 x] (by have := HOK.out; simp; omega) _ _ _ (HFD.out.next (Below.next HBW.out HB6.out)) (HSO.out.next HB6.out) HSN.out).mono ?_; rintro e w7 ⟨v7, rfl, hs7, hb7⟩)
      go_roundw
      case rel => exact ⟨k + 1, by omega, by go_num, by rw [HOS.out]; exact hs7, Below.next HBW.out (Below.next HB6.out hb7)⟩
      case measure => simp [intOf]; omega
    · obtain rfl : k = n := by omega
      have HBs := HBW.out.size
      have j3 : wr.cell? ⟨c, 3, none⟩ = some (.pointer (some ⟨b, 0, none⟩)) := (HBW.out.cell (p := ⟨c, 3, none⟩) HCL.out).trans hg3
      have HOK := hidD (HOL.out k)
      have HCDr := hidD (HCD.out.next HBW.out)
      have hkk : k ≤ 254 := by omega
      clear hso hbel
      go_wp2_with (first
        | (go_at_call 51; refine (times_any one_d S (ofTo L k) (by have := HOK.out; omega) _ _ _ (HFD.out.next HBW.out) (HS.out.next HBW.out) HSO.out).mono ?_; rintro e w5 ⟨v5, rfl, hs5, hb5⟩; have HS5 := hidD hs5; have HB5 := hidD hb5; clear hs5 hb5)
        | (go_at_call 74; refine (low_any (mulS 29 S (ofTo L k)) (by have := HML.out; have := HOK.out; omega) _ _ (HCDr.out.next HB5.out) HS5.out).mono ?_; rintro e w6 ⟨v6, rfl, hs6, hb6⟩; have HS6 := hidD hs6; have HB6 := hidD (Below.next HB5.out hb6); clear hs6 hb6)
        | (go_at_call 73; refine (turnedBeside_any hp1 hp (by omega) (lowS p (mulS 29 S (ofTo L k))) HLT.out (by have := HLL.out; omega) _ _ (HCDr.out.next HB6.out) HS6.out).mono ?_; rintro e w7 ⟨v7, rfl, hs7, hb7⟩; have HS7 := hidD hs7; have HB7 := hidD (Below.next HB6.out hb7); clear hs7 hb7))
      rw [← HOT.out] at HS7
      clear HOT HLT HLL
      generalize hOO : othersS p S L = O at *
      have HOO := hidD hOO
      clear hOO
      obtain ⟨⟨a7, c7, hv7, hc71, hc72⟩, hby⟩ := HS7.out
      subst hv7
      obtain ⟨g7, o7, rfl, hg7, hc7⟩ := hby.shape'.2 0 HOP.out
      clear hby
      have HB7w : Hid (Below w.heap.size w w7) := Below.next HBW.out HB7.out
      have HKK : Hid (∀ wB, Below w7.heap.size w7 wB → ∃ i : KB w7 [c, g7], wB = i.v) := fun wB hb => ⟨⟨wB, fun x hx => by
        have hx' : x = c ∨ x = g7 := by simpa using hx
        rcases hx' with rfl | rfl
        · exact hb.block _ (Nat.lt_of_lt_of_le HCL.out HB7w.out.size)
        · exact hb.block _ hg7⟩, rfl⟩
      have f3 : ∀ i : KB w7 [c, g7], i.v.cell? ⟨c, 3, none⟩ = some (.pointer (some ⟨b, 0, none⟩)) := fun i => ((i.cell (b := c) (by simp) _).trans (HB7w.out.cell (p := ⟨c, 3, none⟩) HCL.out)).trans hg3
      have f7 : ∀ i : KB w7 [c, g7], i.v.cell? ⟨g7, o7, none⟩ = some (.int .u8 ((cf O 0).toNat : Int)) := fun i => (i.cell (b := g7) (by simp) _).trans hc7
      have HDR : Hid (Below w7.heap.size w7 w7.drew) := (Below.refl _ _).drew
      have hol : 0 < O.length := HOP.out
      have holi : (0 : Int) < O.length := by omega
      by_cases h00 : cf O 0 = 0
      · have HIZ := hidD (inv_zero (b := b))
        have HFL : Hid (Value.bool (cf O 0 != 0) = .bool false) := by show _ = _; rw [h00]; rfl
        have HNN : Hid (¬ cf O 0 ≠ 0) := fun h => h h00
        rw [h00] at f7
        generalize O.length = ol at *
        refine wp_region_seg [0, 0, 0, 0, 0, 0, 0, 1, 2, 2, 2, 2, 2] 1 13 [c, g7] (by kernel_rfl) (by kernel_rfl) (by kernel_rfl) (by kernel_rfl) (by kernel_rfl) (by kernel_rfl) (by kernel_rfl) (by kernel_rfl) (fun _ _ _ _ _ h => h) ?_
        simp only [SegW, pk, Nat.reduceMul, Nat.reduceAdd, Nat.reduceBEq, cond_true, cond_false]
        repeat (go_big_quiet_step (fail))
        refine wpQuiet_nil ?_
        go_wp2_with (go_at_call 53; refine (HIZ.out _).mono ?_; rintro e w8 ⟨rfl, hb8⟩)
        have HB8 : Hid (Below w7.heap.size w7 w8) := HDR.out.trans hb8
        clear hb8
        refine ⟨HKK.out _ HB8.out, ?_⟩
        repeat (go_big_quiet_step (fail))
        refine wpQuiet_nil ?_
        go_wp2_with fail
        refine bodyPost_ret (v := .tuple #[.slice none 0 0, .bool false]) (by simp [results, Try.results61, go_sem]) rfl ?_
        exact ⟨_, by rw [HOO.out, HFL.out], fun h => absurd h (by rw [HOO.out]; exact HNN.out), Below.next HB7w.out HB8.out⟩
      · have HIZ := hidD (fun w' (h : FdAt w' b 29 2) => inv_some one_d (cf O 0) h00 w' h)
        have HFL : Hid (Value.bool (cf O 0 != 0) = .bool true) := by show _ = _; rw [(bne_iff_ne (a := cf O 0) (b := 0)).2 h00]
        generalize hO0 : (cf O 0).toNat = x0 at *
        refine wp_region_seg [0, 0, 0, 0, 0, 0, 0, 1, 2, 2, 2, 2, 2] 1 13 [c, g7] (by kernel_rfl) (by kernel_rfl) (by kernel_rfl) (by kernel_rfl) (by kernel_rfl) (by kernel_rfl) (by kernel_rfl) (by kernel_rfl) (fun _ _ _ _ _ h => h) ?_
        simp only [SegW, pk, Nat.reduceMul, Nat.reduceAdd, Nat.reduceBEq, cond_true, cond_false]
        repeat (go_big_quiet_step (fail))
        refine wpQuiet_nil ?_
        go_wp2_with (go_at_call 53; refine (HIZ.out _ (HFD.out.next (Below.next HB7w.out HDR.out))).mono ?_; rintro e w8 ⟨rfl, hb8⟩)
        have HB8 : Hid (Below w7.heap.size w7 w8) := HDR.out.trans hb8
        clear hb8
        refine ⟨HKK.out _ HB8.out, ?_⟩
        repeat (go_big_quiet_step (fail))
        refine wpQuiet_nil ?_
        go_wp2_with fail
        have HB8w : Hid (Below w.heap.size w w8) := Below.next HB7w.out HB8.out
        have HKK8 : Hid (∀ wB, Below w8.heap.size w8 wB → ∃ i : KB w8 [c], wB = i.v) := fun wB hb => ⟨⟨wB, fun x hx => by
          rw [show x = c by simpa using hx]
          exact hb.block _ (Nat.lt_of_lt_of_le HCL.out HB8w.out.size)⟩, rfl⟩
        have f38 : ∀ i : KB w8 [c], i.v.cell? ⟨c, 3, none⟩ = some (.pointer (some ⟨b, 0, none⟩)) := fun i => ((i.cell (b := c) (by simp) _).trans (HB8w.out.cell (p := ⟨c, 3, none⟩) HCL.out)).trans hg3
        have HDR8 : Hid (Below w8.heap.size w8 w8.drew) := (Below.refl _ _).drew
        refine wp_region_seg [0, 0, 0, 0, 0, 0, 0, 0, 0, 0, 0, 1, 3, 5, 6, 6] 3 16 [c] (by kernel_rfl) (by kernel_rfl) (by kernel_rfl) (by kernel_rfl) (by kernel_rfl) (by kernel_rfl) (by kernel_rfl) (by kernel_rfl) (fun _ _ _ _ _ h => h) ?_
        simp only [SegW, pk, Nat.reduceMul, Nat.reduceAdd, Nat.reduceBEq, cond_true, cond_false]
        repeat (go_big_quiet_step (fail))
        refine wpQuiet_nil ?_
        go_wp2_with fail
        have HSN := hidD (sl_new w8.drew [inv 29 (cf O 0)] #[.int .u8 ((inv 29 (cf O 0)).toNat : Int)] 1 rfl rfl (by omega))
        have HB9 : Hid (Below w8.heap.size w8 (w8.drew.alloc (.cells #[.int .u8 ((inv 29 (cf O 0)).toNat : Int)] (5 : TypeId)))) := Below.next HDR8.out ((Below.refl _ _).alloc (Nat.le_refl _) _)
        refine ⟨HKK8.out _ HB9.out, ?_⟩
        refine wpQuiet_nil ?_
        go_wp2_with (go_at_call 51; refine (times_any one_d O [inv 29 (cf O 0)] (by have := HON.out; simp; omega) _ _ _ (HFD.out.next (Below.next HB8w.out HB9.out)) (HS7.out.next (Below.next HB8.out HB9.out)) HSN.out).mono ?_; rintro e wa ⟨va, rfl, hsa, hba⟩)
        have HBa := hidD (Below.next HB9.out hba)
        have HSa := hidD hsa
        clear hba hsa
        refine ⟨HKK8.out _ HBa.out, ?_⟩
        refine wpQuiet_nil ?_
        go_wp2_with (go_at_call 51; refine (times_any one_d (ofTo L k) (mulS 29 O [inv 29 (cf O 0)]) (by have := HON.out; have := HMO.out; have := HOK.out; simp at *; omega) _ _ _ (HFD.out.next (Below.next HB8w.out HBa.out)) (HSO.out.next (Below.next HB7.out (Below.next HB8.out HBa.out))) HSa.out).mono ?_; rintro e wb ⟨vb, rfl, hsb, hbb⟩)
        have HBb := hidD (Below.next HBa.out hbb)
        have HSb := hidD hsb
        clear hbb hsb
        refine ⟨HKK8.out _ HBb.out, ?_⟩
        repeat (go_big_quiet_step (fail))
        refine wpQuiet_nil ?_
        go_wp2_with fail
        refine bodyPost_ret (v := .tuple #[vb, .bool true]) (by simp [results, Try.results61, go_sem]) rfl ?_
        exact ⟨_, by rw [HOO.out, HFL.out], fun _ => by rw [HLO.out]; exact HSb.out, Below.next HB8w.out HBb.out⟩
end Go.Proofs.Ytdpkeffkpecmjaa
