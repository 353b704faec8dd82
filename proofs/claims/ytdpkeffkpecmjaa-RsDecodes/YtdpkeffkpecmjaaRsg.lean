/- What turnedBeside answers: Euclid's steps. -/
import Derived.Test.YtdpkeffkpecmjaaRsf
namespace Go.Proofs.Ytdpkeffkpecmjaa
open Go.RowKit
set_option linter.unusedVariables false

theorem times_any {P G : UInt8} {b : Nat} (ho : ordS P G = 255) (p q : List UInt8) (hsum : p.length + q.length ≤ 281474976710657) (vp vq : Value) (w : World) (hf : FdAt w b P G) (hp : SlAt w vp p) (hq : SlAt w vq q) :
    Calls Try.prog 51 #[.pointer (some ⟨b, 0, none⟩), vp, vq] w fun e w' => ∃ v, e = .returned v ∧ SlAt w' v (mulS P p q) ∧ Below w.heap.size w w' := by
  by_cases h : trimS p = [] ∨ trimS q = []
  · refine (times_none (b := b) p q h vp vq w hp hq).mono ?_
    rintro e w2 ⟨rfl, hb⟩
    exact ⟨_, rfl, by rw [mulS, if_pos h]; exact SlAt.nil _, hb⟩
  · rw [not_or] at h
    exact times_some ho p q h.1 h.2 hsum vp vq w hf hp hq
theorem mul_len (P : UInt8) (p q : List UInt8) : (mulS P p q).length ≤ p.length + q.length := by
  unfold mulS
  split
  · simp
  · have h1 := trim_len p
    have h2 := trim_len q
    simp [timesS]; omega
theorem quo_len (P : UInt8) (p q : List UInt8) (h : trimS q ≠ []) : (quoS P p q).length ≤ p.length := by
  unfold quoS
  split
  · simp
  · rename_i h1
    rw [(divS_len P (trimS p) (trimS q)).2]
    have h2 := trim_len p
    have h3 : 0 < (trimS q).length := List.length_pos_iff.2 h
    omega
theorem plus_len (p q : List UInt8) : (plusS p q).length = max p.length q.length := by simp [plusS]

/-- Euclid's steps, up to the first remainder that is low enough. -/
def besideGo (p lost : Nat) : Nat → List UInt8 → List UInt8 → List UInt8 → List UInt8 → List UInt8
  | 0, _, _, _, nt => nt
  | n + 1, rest, next, times, nt => if p + lost + 2 ≤ 2 * next.length then besideGo p lost n next (modS 29 rest next) nt (trimS (plusS times (mulS 29 (quoS 29 rest next) nt))) else nt
/-- x to the p. -/
def xp (p : Nat) : List UInt8 := (List.replicate (p + 1) 0).set p 1
/-- The locator of what is turned beside the lost places, but for a factor. -/
def besideS (p lost : Nat) (known : List UInt8) : List UInt8 := besideGo p lost known.length (xp p) known [] [1]
/-- What holds ahead of each step. -/
structure Bes (p lost : Nat) (known : List UInt8) (n : Nat) (rest next times nt : List UInt8) : Prop where
  go : besideGo p lost n rest next times nt = besideS p lost known
  fuel : next.length ≤ n
  tidy : Tidy next
  lr : rest.length ≤ 255
  ln : next.length ≤ 255
  lt : times.length + 256 * next.length ≤ 65537
  lnt : nt.length + 256 * next.length ≤ 65537
theorem Bes.start (p lost : Nat) (hp : p ≤ 254) (known : List UInt8) (ht : Tidy known) (hk : known.length ≤ 255) : Bes p lost known known.length (xp p) known [] [1] :=
  ⟨rfl, Nat.le_refl _, ht, by simp [xp]; omega, hk, by simp; omega, by simp; omega⟩
theorem Bes.trim {p lost : Nat} {known rest next times nt : List UInt8} {n : Nat} (h : Bes p lost known n rest next times nt) (hc : p + lost + 2 ≤ 2 * next.length) : trimS next ≠ [] := fun he => by
  rw [trim_id h.tidy] at he
  rw [he] at hc
  simp at hc
theorem Bes.step {p lost : Nat} {known rest next times nt : List UInt8} {n : Nat} (h : Bes p lost known n rest next times nt) (hc : p + lost + 2 ≤ 2 * next.length) :
    ∃ m, (modS 29 rest next).length < next.length ∧ Bes p lost known m next (modS 29 rest next) nt (trimS (plusS times (mulS 29 (quoS 29 rest next) nt))) := by
  have hf := h.fuel
  obtain ⟨m, rfl⟩ : ∃ m, n = m + 1 := ⟨n - 1, by omega⟩
  have h1 := mod_short (P := 29) one_d (p := rest) (h.trim hc)
  rw [trim_id h.tidy] at h1
  have h2 := quo_len 29 rest next (h.trim hc)
  have h3 := mul_len 29 (quoS 29 rest next) nt
  have h4 := trim_len (plusS times (mulS 29 (quoS 29 rest next) nt))
  rw [plus_len] at h4
  have h5 := h.lt
  have h6 := h.lnt
  have h7 := h.lr
  have h8 := h.ln
  have hg := h.go
  rw [besideGo, if_pos hc] at hg
  exact ⟨m, by omega, hg, by omega, mod_tidy _ _ _, by omega, by omega, by omega, by omega⟩
theorem Bes.stop {p lost : Nat} {known rest next times nt : List UInt8} {n : Nat} (h : Bes p lost known n rest next times nt) (hc : ¬ p + lost + 2 ≤ 2 * next.length) : nt = besideS p lost known := by
  rw [← h.go]
  cases n with
  | zero => rfl
  | succ n => rw [besideGo, if_neg hc]

/-- A slice's length. -/
def lenV : Value → Nat
  | .slice _ n _ => n
  | _ => 0
theorem SlAt.len {w : World} {v : Value} {l : List UInt8} (h : SlAt w v l) : lenV v = l.length := by
  obtain ⟨⟨a, cap, rfl, _, _⟩, _⟩ := h
  rfl
set_option maxRecDepth 100000 in
set_option maxHeartbeats 3200000 in
theorem turnedBeside_any {c p f lost : Nat} (hp1 : 1 ≤ p) (hp : p ≤ 254) (hlo : lost ≤ 255) (known : List UInt8) (ht : Tidy known) (hk : known.length ≤ 255) (v : Value) (w : World) (hc : CdAt w c p f) (hv : SlAt w v known) :
    Calls Try.prog 73 #[.pointer (some ⟨c, 0, none⟩), .int .i64 lost, v] w fun e w' => ∃ v', e = .returned v' ∧ SlAt w' v' (besideS p lost known) ∧ Below w.heap.size w w' := by
  have HCD := hidD hc
  have HST := hidD (Bes.start p lost hp known ht hk)
  have HV := hidD hv
  obtain ⟨gv, b, hg2, hg3, hg4, hg5⟩ := hc.rest
  have h0 := hc.c0
  have HCL := hidD hc.lt
  have HFD := hidD hg5
  clear hg4 hg5 hg2 hc hv ht hk
  obtain ⟨i0, hi, hz0, hz1, hz2⟩ := info_parts Try.info5
  go_enter Try.func73, Try.ntmps73
  go_wp2_with (first
    | (at_make; refine wpList_make_full _ rfl _ _ 22 rfl w.heap.size 5 i0 (.int .u8 0) 1 Try.underlying22 hi hz0 hz1 _ _ _ _ (p + 1) rfl (by go_num) (by omega) (by omega) (by rw [hz2]; omega) (by unfold maxLen; omega) (Nat.le_refl _) ?_; intro w3 hown3 hg3'; have HR3 := hidD (row_of_made hown3); have HB3 : Hid (Below w.heap.size w w3) := ((Below.refl w.heap.size w).grown hg3' (Nat.le_refl _) (fun k hk => by cases hk)); have j0 : w3.cell? ⟨c, 0, none⟩ = some (.int .i64 p) := (HB3.out.cell (p := ⟨c, 0, none⟩) HCL.out).trans h0; have k3 : w3.cell? ⟨w.heap.size, p, none⟩ = some (.int .u8 0) := (by have h := HR3.out.cell (k := p) (by simp); rw [List.getD_eq_getElem?_getD, List.getElem?_replicate] at h; simpa using h); have l3 := HR3.out.frozen p; clear hown3 hg3'))
  all_goals
    have HR4 : Hid (RowAt (w3.setCell ⟨w.heap.size, p, none⟩ (.int .u8 1)) w.heap.size (xp p)) := HR3.out.set p 1
    have HB4 : Hid (Below w.heap.size w (w3.setCell ⟨w.heap.size, p, none⟩ (.int .u8 1))) := HB3.out.setCell (p := ⟨w.heap.size, p, none⟩) (Nat.le_refl _) _
    clear HR3 HB3 k3 l3 j0
    obtain ⟨w4, hw4⟩ : ∃ w4, w4 = w3.setCell ⟨w.heap.size, p, none⟩ (.int .u8 1) := ⟨_, rfl⟩
    rw [← hw4] at HR4 HB4
    have hsz : w4.heap.size = w3.heap.size := by rw [hw4]; simp
    have HNT := hidD (sl_new w4 [1] #[.int .u8 1] 1 rfl rfl (by omega))
    have HAL : Hid (Below w4.heap.size w4 (w4.alloc (.cells #[.int .u8 1] (5 : TypeId)))) := (Below.refl _ _).alloc (Nat.le_refl _) _
    have HRE : Hid (SlAt w4 (.slice (some ⟨w.heap.size, 0, none⟩) (p + 1) (p + 1)) (xp p)) := SlAt.row HR4.out (by simp [xp]) (by omega)
    go_loopw [7, 8, 9, 10, 11, 12, 13] (fun r t n nt _ _ _ wr => ∃ k R N T NT, Bes p lost known k R N T NT ∧ SlAt wr r R ∧ SlAt wr t T ∧ SlAt wr n N ∧ SlAt wr nt NT ∧ Below w.heap.size w wr) (fun _ _ n _ _ _ _ _ => lenV n)
    case atStart =>
      rw [hsz] at HNT
      rw [hw4] at HNT HRE HB4 HAL
      exact ⟨_, _, _, _, _, HST.out, HRE.out.next HAL.out, SlAt.nil _, HV.out.next (HB4.out.trans (HAL.out.mono HB4.out.size)), HNT.out, HB4.out.trans (HAL.out.mono HB4.out.size)⟩
    case round =>
      obtain ⟨k, R, N, T, NT, hbes, hsr, hst, hsn, hsnt, hbel⟩ := hrel
      have HBES := hidD hbes
      have HSR := hidD hsr
      have HSTT := hidD hst
      have HSN := hidD hsn
      have HSNT := hidD hsnt
      have HBW := hidD hbel
      have hNl : N.length ≤ 255 := hbes.ln
      obtain ⟨⟨an, cn, hun, _, _⟩, _⟩ := hsn
      subst hun
      have HKK : Hid (∀ wB, Below wr.heap.size wr wB → ∃ i : KB wr [c], wB = i.v) := fun wB hb => ⟨⟨wB, fun x hx => by
        rw [show x = c by simpa using hx]
        exact hb.block _ (Nat.lt_of_lt_of_le HCL.out HBW.out.size)⟩, rfl⟩
      have f0 : ∀ i : KB wr [c], i.v.cell? ⟨c, 0, none⟩ = some (.int .i64 p) := fun i => ((i.cell (b := c) (by simp) _).trans (HBW.out.cell (p := ⟨c, 0, none⟩) HCL.out)).trans h0
      have HDR : Hid (Below wr.heap.size wr wr.drew) := (Below.refl _ _).drew
      have HDG := hidD (fun w' => degreeOf_any an N.length cn (by omega) w')
      clear hbes hsr hst hsnt hbel
      generalize hNN : N.length = n at *
      by_cases hcond : p + lost + 2 ≤ 2 * n
      · have hcd : (p : Int) + lost ≤ 2 * ((n : Int) - 1) := by omega
        obtain ⟨m, HML, HBN⟩ := HBES.out.step (by rw [hNN]; exact hcond)
        have HNE := hidD (HBES.out.trim (by rw [hNN]; exact hcond))
        have HML' := hidD HML
        have HBN' := hidD HBN
        have HRL := hidD HBES.out.lr
        have HTL := hidD HBES.out.lt
        have HNTL := hidD HBES.out.lnt
        have HQL := hidD (quo_len 29 R N HNE.out)
        have HMU := hidD (mul_len 29 (quoS 29 R N) NT)
        clear HML HBN
        go_wp2_with fail
        refine wp_region_seg [0, 1, 2, 0, 0, 0, 0, 0, 0, 2] 1 10 [c] (by kernel_rfl) (by kernel_rfl) (by kernel_rfl) (by kernel_rfl) (by kernel_rfl) (by kernel_rfl) (by kernel_rfl) (by kernel_rfl) (fun _ _ _ _ _ h => h) ?_
        simp only [SegW, pk, Nat.reduceMul, Nat.reduceAdd, Nat.reduceBEq, cond_true, cond_false]
        repeat (go_big_quiet_step (fail))
        refine wpQuiet_nil ?_
        go_wp2_with (go_at_call 75; refine (HDG.out _).mono ?_; rintro e w5 ⟨rfl, hb5⟩)
        have HB5 : Hid (Below wr.heap.size wr w5) := HDR.out.trans hb5
        clear hb5
        refine ⟨HKK.out _ HB5.out, ?_⟩
        repeat (go_big_quiet_step (fail))
        refine wpQuiet_nil ?_
        have HB5w : Hid (Below w.heap.size w w5) := Below.next HBW.out HB5.out
        have j3 : w5.cell? ⟨c, 3, none⟩ = some (.pointer (some ⟨b, 0, none⟩)) := (HB5w.out.cell (p := ⟨c, 3, none⟩) HCL.out).trans hg3
        go_wp2_with (go_at_call 34; refine (divide_any one_d R N HNE.out (by have := HRL.out; omega) _ _ _ (HFD.out.next HB5w.out) (HSR.out.next HB5.out) (HSN.out.next HB5.out)).mono ?_; rintro e w6 ⟨v1, v2, rfl, hs1, hs2, _, hb6⟩; have HS1 := hidD hs1; have HS2 := hidD hs2; have HB6 := hidD (Below.next HB5.out hb6); clear hs1 hs2 hb6)
        have HB6w : Hid (Below w.heap.size w w6) := Below.next HBW.out HB6.out
        have HKK6 : Hid (∀ wB, Below w6.heap.size w6 wB → ∃ i : KB w6 [c], wB = i.v) := fun wB hb => ⟨⟨wB, fun x hx => by
          rw [show x = c by simpa using hx]
          exact hb.block _ (Nat.lt_of_lt_of_le HCL.out HB6w.out.size)⟩, rfl⟩
        have f3 : ∀ i : KB w6 [c], i.v.cell? ⟨c, 3, none⟩ = some (.pointer (some ⟨b, 0, none⟩)) := fun i => ((i.cell (b := c) (by simp) _).trans (HB6w.out.cell (p := ⟨c, 3, none⟩) HCL.out)).trans hg3
        have HDR6 : Hid (Below w6.heap.size w6 w6.drew) := (Below.refl _ _).drew
        refine wp_region_seg [0, 0, 0, 0, 0, 0, 0, 0, 0, 0, 0, 0, 1, 3, 4, 4] 2 16 [c] (by kernel_rfl) (by kernel_rfl) (by kernel_rfl) (by kernel_rfl) (by kernel_rfl) (by kernel_rfl) (by kernel_rfl) (by kernel_rfl) (fun _ _ _ _ _ h => h) ?_
        simp only [SegW, pk, Nat.reduceMul, Nat.reduceAdd, Nat.reduceBEq, cond_true, cond_false]
        repeat (go_big_quiet_step (fail))
        refine wpQuiet_nil ?_
        go_wp2_with (go_at_call 51; refine (times_any one_d (quoS 29 R N) NT (by have := HQL.out; have := HRL.out; have := HNTL.out; omega) _ _ _ (HFD.out.next (Below.next HB6w.out HDR6.out)) (HS1.out.next HDR6.out) (HSNT.out.next (Below.next HB6.out HDR6.out))).mono ?_; rintro e w7 ⟨v7, rfl, hs7, hb7⟩)
        have HB7 : Hid (Below w6.heap.size w6 w7) := HDR6.out.trans hb7
        have HS7 := hidD hs7
        clear hb7 hs7
        refine ⟨HKK6.out _ HB7.out, ?_⟩
        repeat (go_big_quiet_step (fail))
        refine wpQuiet_nil ?_
        go_wp2_with (go_at_call 82; refine (plus_any (b := b) T (mulS 29 (quoS 29 R N) NT) (by have := HTL.out; omega) (by have := HMU.out; have := HQL.out; have := HRL.out; have := HNTL.out; omega) _ _ _ (HSTT.out.next (Below.next HB6.out HB7.out)) HS7.out).mono ?_; rintro e w8 ⟨v8, rfl, hs8, hb8⟩)
        have HB8 : Hid (Below w6.heap.size w6 w8) := Below.next HB7.out hb8
        have HS8 := hidD hs8
        clear hb8 hs8
        refine ⟨HKK6.out _ HB8.out, ?_⟩
        repeat (go_big_quiet_step (fail))
        refine wpQuiet_nil ?_
        have HLV := hidD HS2.out.len
        go_wp2_with fail
        go_roundw
        case rel => exact ⟨_, _, _, _, _, HBN'.out, HSN.out.next (Below.next HB6.out HB8.out), HSNT.out.next (Below.next HB6.out HB8.out), HS2.out.next HB8.out, HS8.out, Below.next HB6w.out HB8.out⟩
        case measure =>
          have h1 := HML'.out
          have h2 := HLV.out
          simp only [lenV] at *
          omega
      · have hcd : 2 * ((n : Int) - 1) < (p : Int) + lost := by omega
        have HEQ := hidD (HBES.out.stop (by rw [hNN]; exact hcond))
        go_wp2_with fail
        refine wp_region_seg [0, 1, 2, 0, 0, 0, 0, 0, 0, 2] 1 10 [c] (by kernel_rfl) (by kernel_rfl) (by kernel_rfl) (by kernel_rfl) (by kernel_rfl) (by kernel_rfl) (by kernel_rfl) (by kernel_rfl) (fun _ _ _ _ _ h => h) ?_
        simp only [SegW, pk, Nat.reduceMul, Nat.reduceAdd, Nat.reduceBEq, cond_true, cond_false]
        repeat (go_big_quiet_step (fail))
        refine wpQuiet_nil ?_
        go_wp2_with (go_at_call 75; refine (HDG.out _).mono ?_; rintro e w5 ⟨rfl, hb5⟩)
        have HB5 : Hid (Below wr.heap.size wr w5) := HDR.out.trans hb5
        clear hb5
        refine ⟨HKK.out _ HB5.out, ?_⟩
        repeat (go_big_quiet_step (fail))
        refine wpQuiet_nil ?_
        go_wp2_with fail
        go_ret
        exact ⟨_, rfl, by rw [← HEQ.out]; exact HSNT.out.next HB5.out, Below.next HBW.out HB5.out⟩
end Go.Proofs.Ytdpkeffkpecmjaa
