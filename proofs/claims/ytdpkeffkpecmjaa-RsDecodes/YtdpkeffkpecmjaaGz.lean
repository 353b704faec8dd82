/- Texts of one proof, one behind the other. -/
import Derived.Test.YtdpkeffkpecmjaaGm
import Derived.Test.YtdpkeffkpecmjaaGy
/- What the document's divisor answers. -/
namespace Go.Proofs.Ytdpkeffkpecmjaa
open Go.RowKit
set_option linter.unusedVariables false

def rDiB (p bound : Nat) (t : List UInt8) : List UInt8 := rGo bound t.length (xp p) t [] [1]
theorem refTimes_all {b : Nat} (p q : List UInt8) (hsum : p.length + q.length ≤ 281474976710657) (vp vq : Value) (w : World) (hf : RfAt w b 29 2) (hp : SlAt w vp p) (hq : SlAt w vq q) : Calls Try.prog 45 #[.pointer (some ⟨b, 0, none⟩), vp, vq] w fun e w' => ∃ v, e = .returned v ∧ SlAt w' v (mulS 29 p q) ∧ Below w.heap.size w w' := by
  by_cases h : p = [] ∨ q = []
  · have he : mulS 29 p q = [] := by
      unfold mulS
      rw [if_pos]
      rcases h with h | h
      · rw [h]; exact .inl rfl
      · rw [h]; exact .inr rfl
    rw [he]
    exact (refTimes_none p q h vp vq w hp hq).mono fun e w' ⟨h1, h2⟩ => ⟨_, h1, SlAt.nil _, h2⟩
  · have := refTimes_some p q (fun h' => h (.inl h')) (fun h' => h (.inr h')) hsum vp vq w hf hp hq
    rw [times_trim one_d] at this
    exact this
theorem refDivide_all {b : Nat} (p q : List UInt8) (hq0 : trimS q ≠ []) (hpl : p.length ≤ 281474976710655) (hql : q.length ≤ 281474976710655) (vp vq : Value) (w : World) (hf : RfAt w b 29 2) (hp : SlAt w vp p) (hq : SlAt w vq q) : Calls Try.prog 38 #[.pointer (some ⟨b, 0, none⟩), vp, vq] w fun e w' => ∃ v1 v2, e = .returned (.tuple #[v1, v2, .int .i64 0]) ∧ SlAt w' v1 (quoS 29 p q) ∧ SlAt w' v2 (modS 29 p q) ∧ Below w.heap.size w w' := by
  by_cases hlt : (trimS p).length < (trimS q).length
  · have e1 : quoS 29 p q = [] := by unfold quoS; rw [if_pos hlt]
    have e2 : modS 29 p q = trimS p := by unfold modS; rw [if_pos hlt]
    rw [e1, e2]
    exact (refDivide_short p q (by omega) (by omega) hlt vp vq w hp hq).mono fun e w' ⟨v, h1, h2, h3⟩ => ⟨_, v, h1, SlAt.nil _, h2, h3⟩
  · have e1 : quoS 29 p q = trimS (divS 29 (trimS p) (trimS q)).2 := by
      have ht := trim_id (quo_tidy one_d (p := p) hq0)
      rw [← ht]
      unfold quoS
      rw [if_neg hlt]
    have e2 : modS 29 p q = trimS (divS 29 (trimS p) (trimS q)).1 := by unfold modS; rw [if_neg hlt]
    rw [e1, e2]
    exact refDivide_long p q hq0 (by omega) hpl hql vp vq w hf hp hq
/-- What holds ahead of each of the document's steps. -/
structure Rbs (p bound : Nat) (known : List UInt8) (n : Nat) (rest next times nt : List UInt8) : Prop where
  go : rGo bound n rest next times nt = rDiB p bound known
  fuel : next.length ≤ n
  tidy : Tidy next
  lr : rest.length ≤ 255
  ln : next.length ≤ 255
  lt : times.length + 256 * next.length ≤ 65537
  lnt : nt.length + 256 * next.length ≤ 65537
theorem Rbs.start (p bound : Nat) (hp : p ≤ 254) (known : List UInt8) (ht : Tidy known) (hk : known.length ≤ 255) : Rbs p bound known known.length (xp p) known [] [1] :=
  ⟨rfl, Nat.le_refl _, ht, by simp [xp]; omega, hk, by simp; omega, by simp; omega⟩
theorem Rbs.trim {p bound : Nat} {known rest next times nt : List UInt8} {n : Nat} (h : Rbs p bound known n rest next times nt) (hc : bound < next.length) : trimS next ≠ [] := fun he => by
  rw [trim_id h.tidy] at he
  rw [he] at hc
  simp at hc
theorem Rbs.step {p bound : Nat} {known rest next times nt : List UInt8} {n : Nat} (h : Rbs p bound known n rest next times nt) (hc : bound < next.length) :
    ∃ m, (modS 29 rest next).length < next.length ∧ Rbs p bound known m next (modS 29 rest next) nt (trimS (plusS times (mulS 29 (quoS 29 rest next) nt))) := by
  have hf := h.fuel
  obtain ⟨m, rfl⟩ : ∃ m, n = m + 1 := ⟨n - 1, by omega⟩
  have h1 := mod_short (P := 29) one_d (p := rest) (h.trim hc)
  rw [trim_id h.tidy] at h1
  have h2 := quo_len 29 rest next (h.trim hc)
  have h3 := mul_len 29 (quoS 29 rest next) nt
  have h4 := trim_len (plusS times (mulS 29 (quoS 29 rest next) nt))
  rw [plus_len] at h4
  have h5 := h.lt
  have h6 := h.lnt
  have h7 := h.lr
  have h8 := h.ln
  have hg := h.go
  rw [rGo, if_pos hc] at hg
  exact ⟨m, by omega, hg, by omega, mod_tidy _ _ _, by omega, by omega, by omega, by omega⟩
theorem Rbs.stop {p bound : Nat} {known rest next times nt : List UInt8} {n : Nat} (h : Rbs p bound known n rest next times nt) (hc : ¬ bound < next.length) : nt = rDiB p bound known := by
  rw [← h.go]
  cases n with
  | zero => rfl
  | succ n => rw [rGo, if_neg hc]

end Go.Proofs.Ytdpkeffkpecmjaa
/- What the document's divisor answers. -/
namespace Go.Proofs.Ytdpkeffkpecmjaa
open Go.RowKit
set_option linter.unusedVariables false

/-- The factor, its constant one made 1. -/
def rFac (p bound : Nat) (t : List UInt8) : List UInt8 := if cf (rDiB p bound (trimS t)) 0 = 0 then [1] else mulS 29 (rDiB p bound (trimS t)) [inv 29 (cf (rDiB p bound (trimS t)) 0)]
theorem xp_is (p : Nat) : (List.replicate p (0 : UInt8)).map encB ++ [1].map encB = (xp p).map encB := by
  rw [← List.map_append]
  congr 1
  refine cf_ext (by simp [xp]) fun k hk => ?_
  have hk' : k < p + 1 := by simpa using hk
  unfold xp
  rw [cf_set _ _ _ _ (by simp), cf_zeros]
  unfold cf
  rw [List.getD_eq_getElem?_getD]
  by_cases h : k < p
  · rw [List.getElem?_append_left (by simpa using h), if_neg (by omega), List.getElem?_replicate, if_pos h]; rfl
  · rw [List.getElem?_append_right (by simp; omega), if_pos (by omega), List.length_replicate, show k - p = 0 by omega]; rfl
set_option maxRecDepth 100000 in
set_option maxHeartbeats 3200000 in
theorem divisor_any {c p f : Nat} (hp : p ≤ 254) (bound : Nat) (t : List UInt8) (ht : t.length ≤ 255) (v : Value) (w : World) (hc : RkAt w c p f) (hv : SlAt w v t) : Calls Try.prog 65 #[.pointer (some ⟨c, 0, none⟩), v, .int .i64 bound] w fun e w' => ∃ u, e = .returned u ∧ SlAt w' u (rFac p bound t) ∧ Below w.heap.size w w' := by
  have HV := hidD hv
  have HCD := hidD hc
  have HFI := hidD refField_any
  have HAL : Hid (∀ (w' : World) o, Below w'.heap.size w' (w'.alloc o)) := fun w' o => (Below.refl _ _).alloc (Nat.le_refl _) o
  have HTR := hidD (fun w' (h : Below w.heap.size w w') => refTrim_any t (by omega) v w' (HV.out.next h))
  have htl := trim_len t
  have HST := hidD (Rbs.start p bound hp (trimS t) (trim_tidy t) (by omega))
  have HXP := hidD (xp_is p)
  have HXL : Hid ((xp p).length = p + 1) := by show _ = _; simp [xp]
  have HB1 : Hid (∀ w' : World, ByAt (w'.alloc (.cells #[.int .u8 1] (5 : TypeId))) (.slice (some ⟨w'.heap.size, 0, none⟩) 1 1) [1]) := fun w' => (sl_new w' [1] _ 1 rfl rfl (by omega)).by'
  have HS1 : Hid (∀ w' : World, SlAt (w'.alloc (.cells #[.int .u8 1] (5 : TypeId))) (.slice (some ⟨w'.heap.size, 0, none⟩) 1 1) [1]) := fun w' => sl_new w' [1] _ 1 rfl rfl (by omega)
  have HS0 : Hid (∀ w' : World, SlAt (w'.alloc (.cells #[] (5 : TypeId))) (.slice (some ⟨w'.heap.size, 0, none⟩) 0 0) []) := fun w' => sl_new w' [] _ 0 rfl rfl (by omega)
  have f0 := hc.c0
  obtain ⟨i5, hi5, hz50, hz51, hz52⟩ := info_parts Try.info5
  clear hc hv
  go_enter Try.func65, Try.ntmps65
  go_wp2_with (first
    | (go_at_call 37; refine (HFI.out _).mono ?_; rintro e w3 ⟨b, rfl, _, hf3, hb3⟩; have HF3 := hidD hf3; have HB3 := hidD hb3; have f3 : w3.cell? ⟨c, 0, none⟩ = some (.int .i64 p) := (HCD.out.next hb3).c0; clear hf3 hb3)
    | (at_make; refine wpList_make_full _ rfl _ _ 22 rfl w3.heap.size 5 i5 (.int .u8 0) 1 Try.underlying22 hi5 hz50 hz51 _ _ _ _ p rfl rfl (by omega) (by omega) (by rw [hz52]; omega) (by unfold maxLen; omega) (Nat.le_refl _) ?_; intro w4 hown4 hg4; rw [made_zeros] at hown4; have HO4 := hidD hown4; have HB4 := hidD ((Below.refl w3.heap.size w3).grown hg4 (Nat.le_refl _) (fun k hk => by cases hk)); clear hown4 hg4)
    | (at_builtin; refine wpList_append_by rfl _ _ rfl w3.heap.size (.slice (some ⟨w3.heap.size, 0, none⟩) p p) p ((List.replicate p (0 : UInt8)).map encB) rfl (HO4.out.alloc _) (.slice (some ⟨w4.heap.size, 0, none⟩) 1 1) [1] rfl (HB1.out w4) (by simp; omega) (by have := HB4.out.size; simp; omega) ?_; intro v5 w5 hown5 hg5; rw [HXP.out] at hown5; have HA5 := hidD (sl_of_own (base := w3.heap.size) (l := xp p) (by rw [HXL.out]; exact hown5)); have HB5 := hidD (Below.next HB3.out (row_grown (HO4.out.alloc _) (Below.next HB4.out (HAL.out _ _)) hg5 (by have := HB4.out.size; simp; omega))); have HF5 := hidD (HF3.out.next (row_grown (HO4.out.alloc _) (Below.next HB4.out (HAL.out _ _)) hg5 (by have := HB4.out.size; simp; omega))); clear hown5 hg5)
    | (go_at_call 46; refine (HTR.out _ HB5.out).mono ?_; rintro e w6 ⟨vt, rfl, hs6, hb6⟩; have HT6 := hidD hs6; have HA6 := hidD (HA5.out.next hb6); have HF6 := hidD (HF5.out.next hb6); have HB6 := hidD (Below.next HB5.out hb6); clear hs6 hb6))
  have HBI : Hid (Below w6.heap.size w6 ((w6.alloc (.cells #[] (5 : TypeId))).alloc (.cells #[.int .u8 1] (5 : TypeId)))) := Below.next (HAL.out _ _) (HAL.out _ _)
  have HU0 := hidD ((HS0.out w6).next (HAL.out (w6.alloc (.cells #[] (5 : TypeId))) (.cells #[.int .u8 1] (5 : TypeId))))
  have HV0 := hidD (HS1.out (w6.alloc (.cells #[] (5 : TypeId))))
  have hsz : (w6.alloc (.cells #[] (5 : TypeId))).heap.size = w6.heap.size + 1 := by simp
  rw [hsz] at HV0
  clear hsz
  have HDV : Hid (∀ n rest next times nt vr vn w', Rbs p bound (trimS t) n rest next times nt → bound < next.length → RfAt w' b 29 2 → SlAt w' vr rest → SlAt w' vn next → Calls Try.prog 38 #[.pointer (some ⟨b, 0, none⟩), vr, vn] w' fun e w2 => ∃ v1 v2, e = .returned (.tuple #[v1, v2, .int .i64 0]) ∧ SlAt w2 v1 (quoS 29 rest next) ∧ SlAt w2 v2 (modS 29 rest next) ∧ Below w'.heap.size w' w2) := fun n rest next times nt vr vn w' hr hb hf h1 h2 => refDivide_all rest next (hr.trim hb) (by have := hr.lr; omega) (by have := hr.ln; omega) vr vn w' hf h1 h2
  have HTM : Hid (∀ n rest next times nt vq vn w', Rbs p bound (trimS t) n rest next times nt → bound < next.length → RfAt w' b 29 2 → SlAt w' vq (quoS 29 rest next) → SlAt w' vn nt → Calls Try.prog 45 #[.pointer (some ⟨b, 0, none⟩), vq, vn] w' fun e w2 => ∃ v, e = .returned v ∧ SlAt w2 v (mulS 29 (quoS 29 rest next) nt) ∧ Below w'.heap.size w' w2) := fun n rest next times nt vq vn w' hr hb hf h1 h2 => refTimes_all _ _ (by have := quo_len 29 rest next (hr.trim hb); have := hr.lr; have := hr.lnt; omega) vq vn w' hf h1 h2
  have HPL : Hid (∀ n rest next times nt vu vm w', Rbs p bound (trimS t) n rest next times nt → bound < next.length → SlAt w' vu times → SlAt w' vm (mulS 29 (quoS 29 rest next) nt) → Calls Try.prog 77 #[.pointer (some ⟨b, 0, none⟩), vu, vm] w' fun e w2 => ∃ v, e = .returned v ∧ SlAt w2 v (trimS (plusS times (mulS 29 (quoS 29 rest next) nt))) ∧ Below w'.heap.size w' w2) := fun n rest next times nt vu vm w' hr hb h1 h2 => refPlus_any times _ (by have := hr.lt; omega) (by have := mul_len 29 (quoS 29 rest next) nt; have := quo_len 29 rest next (hr.trim hb); have := hr.lr; have := hr.lnt; omega) vu vm w' h1 h2
  go_loopw [8, 9, 10, 11, 12, 13, 14] (fun s8 s9 s10 s11 _ _ _ wr => ∃ n rest next times nt, Rbs p bound (trimS t) n rest next times nt ∧ SlAt wr s8 rest ∧ SlAt wr s9 next ∧ SlAt wr s10 times ∧ SlAt wr s11 nt ∧ Below w6.heap.size w6 wr) (fun _ s9 _ _ _ _ _ _ => lenV s9)
  case atStart => exact ⟨_, _, _, _, _, HST.out, HA6.out.next HBI.out, HT6.out.next HBI.out, HU0.out, HV0.out, HBI.out⟩
  case round =>
    obtain ⟨n, rest, next, times, nt, hr, h8, h9, h10, h11, hbel⟩ := hrel
    obtain ⟨a9, c9, hs9, _, _⟩ := h9.shape
    subst hs9
    have HR := hidD hr
    have H8 := hidD h8
    have H9 := hidD h9
    have H10 := hidD h10
    have H11 := hidD h11
    have HBL := hidD hbel
    have HFW := hidD (HF6.out.next hbel)
    clear hr h8 h9 h10 h11 hbel
    by_cases hlt : bound < next.length
    · have hlti : (bound : Int) < next.length := by omega
      obtain ⟨m, hml, hrs⟩ := HR.out.step hlt
      have HRS := hidD hrs
      have HML := hidD hml
      have HLT := hidD hlt
      clear hrs hml
      go_wp2_with (first
        | (go_at_call 38; refine (HDV.out _ _ _ _ _ _ _ _ HR.out HLT.out HFW.out H8.out H9.out).mono ?_; rintro e w7 ⟨v1, v2, rfl, hq, hm, hb⟩; have HB7 := hidD hb; have HQ7 := hidD hq; have HM7 := hidD hm; clear hb hq hm)
        | (go_at_call 45; refine (HTM.out _ _ _ _ _ _ _ _ HR.out HLT.out (HFW.out.next HB7.out) HQ7.out (H11.out.next HB7.out)).mono ?_; rintro e w8 ⟨v3, rfl, hs, hb⟩; have HB8 := hidD (Below.next HB7.out hb); have HX8 := hidD hs; have HM8 := hidD (HM7.out.next hb); clear hb hs)
        | (go_at_call 77; refine (HPL.out _ _ _ _ _ _ _ _ HR.out HLT.out (H10.out.next HB8.out) HX8.out).mono ?_; rintro e w9 ⟨v4, rfl, hs, hb⟩; have HB9 := hidD (Below.next HB8.out hb); have HX9 := hidD hs; have HM9 := hidD (HM8.out.next hb); clear hb hs))
      go_roundw
      case rel => exact ⟨m, _, _, _, _, HRS.out, H9.out.next HB9.out, HM9.out, H11.out.next HB9.out, HX9.out, Below.next HBL.out HB9.out⟩
      case measure =>
        have h1 := HM7.out.len
        have h2 := HML.out
        rw [h1]
        simpa [lenV] using h2
    · have HST2 := hidD (HR.out.stop hlt)
      have hlti : ¬ (bound : Int) < next.length := by omega
      have HBZ := hidD (Below.next HB6.out HBL.out)
      obtain ⟨a11, c11, hs11, _, _⟩ := H11.out.shape
      subst hs11
      have HNL := hidD HR.out.lnt
      by_cases h0 : cf nt 0 = 0
      · have HFC : Hid (rFac p bound t = [1]) := by show _ = _; unfold rFac; rw [← HST2.out, if_pos h0]
        by_cases hn : nt.length = 0
        · have hni : ((nt.length : Int) == 0) = true := by rw [hn]; rfl
          clear hn h0 hlt
          go_wp2_with fail
          go_ret
          exact ⟨_, rfl, by rw [HFC.out]; exact HS1.out wr, Below.next HBZ.out (HAL.out _ _)⟩
        · have hni : ((nt.length : Int) == 0) = false := beq_eq_false_iff_ne.2 (by omega)
          have hnp : (0 : Int) < nt.length := by omega
          obtain ⟨g, o, ha, hg, hcell⟩ : ∃ g o, a11 = some ⟨g, o, none⟩ ∧ g < wr.heap.size ∧ ∀ j, j < nt.length → wr.cell? ⟨g, o + j, none⟩ = some (encB (nt.getD j 0)) := by
            rcases H11.out.by' with ⟨hz, _⟩ | ⟨g, o, k, he, hg, hc⟩
            · rw [hz] at hn; simp at hn
            · injection he with e1 e2 e3
              exact ⟨g, o, e1, hg, hc⟩
          subst ha
          have f1 : wr.cell? ⟨g, o, none⟩ = some (.int .u8 0) := by
            have := hcell 0 (by omega)
            rw [Nat.add_zero] at this
            rw [this]
            show some (Value.int .u8 ((cf nt 0).toNat : Int)) = _
            rw [h0]; rfl
          clear hn h0 hlt hcell
          go_wp2_with fail
          go_ret
          exact ⟨_, rfl, by rw [HFC.out]; exact HS1.out wr, Below.next HBZ.out (HAL.out _ _)⟩
      · have HFC : Hid (rFac p bound t = mulS 29 nt [inv 29 (cf nt 0)]) := by show _ = _; unfold rFac; rw [← HST2.out, if_neg h0]
        have hn : nt.length ≠ 0 := fun hz => h0 (cf_ge (by omega))
        have hni : ((nt.length : Int) == 0) = false := beq_eq_false_iff_ne.2 (by omega)
        have hnp : (0 : Int) < nt.length := by omega
        obtain ⟨g, o, ha, hg, hcell⟩ : ∃ g o, a11 = some ⟨g, o, none⟩ ∧ g < wr.heap.size ∧ ∀ j, j < nt.length → wr.cell? ⟨g, o + j, none⟩ = some (encB (nt.getD j 0)) := by
          rcases H11.out.by' with ⟨hz, _⟩ | ⟨g, o, k, he, hg, hc⟩
          · rw [hz] at hn; simp at hn
          · injection he with e1 e2 e3
            exact ⟨g, o, e1, hg, hc⟩
        subst ha
        have f1 : wr.cell? ⟨g, o, none⟩ = some (.int .u8 ((cf nt 0).toNat : Int)) := by
          have := hcell 0 (by omega)
          rw [Nat.add_zero] at this
          exact this
        have hv := u8_ne h0
        have hvb := u8_bne h0
        have HIV := hidD (fun w' (h : RfAt w' b 29 2) => calls_below (refInv_some (cf nt 0) h0 w' h))
        have HSI := hidD (fun w' : World => sl_new w' [inv 29 (cf nt 0)] #[.int .u8 ((inv 29 (cf nt 0)).toNat : Int)] 1 rfl rfl (by omega))
        have HTI := hidD (fun vq vn w' hf h1 h2 => refTimes_all (b := b) nt [inv 29 (cf nt 0)] (by have := HNL.out; simp; omega) vq vn w' hf h1 h2)
        clear hn h0 hlt hcell
        generalize ((inv 29 (cf nt 0)).toNat : Int) = iv at *
        generalize ((cf nt 0).toNat : Int) = cv at *
        go_wp2_with (first
          | (go_at_call 71; refine (HIV.out _ HFW.out).mono ?_; rintro e w7 ⟨rfl, hb⟩; have HB7 := hidD hb; clear hb)
          | (go_at_call 45; refine (HTI.out _ _ _ ((HFW.out.next HB7.out).next (HAL.out _ _)) ((H11.out.next HB7.out).next (HAL.out _ _)) (HSI.out _)).mono ?_; rintro e w8 ⟨v8, rfl, hs, hb⟩; have HS8 := hidD hs; have HB8 := hidD (Below.next HB7.out (Below.next (HAL.out _ _) hb)); clear hb hs))
        go_ret
        exact ⟨_, rfl, by rw [HFC.out]; exact HS8.out, Below.next HBZ.out HB8.out⟩
end Go.Proofs.Ytdpkeffkpecmjaa
/- Plain facts: the document's locator, where a good word is near enough. -/
namespace Go.Proofs.Ytdpkeffkpecmjaa
open Go.RowKit
set_option linter.unusedVariables false

theorem doc_loc {f p : Nat} (hp1 : 1 ≤ p) (hp : p ≤ 254) (r c : List UInt8) (h1 : p < r.length) (h2 : r.length ≤ 255) (hlen : c.length = r.length) (hg : ∀ i, i < p → syn f c i = 0) (L : List Int) (hL : areS L r.length = true) (hb : 2 * (turnP r c L).length + L.length ≤ p) :
    cf (mulS 29 (rFac p ((p + L.length) / 2) ((mulS 29 (syns f p r) (ofTo (powS L r.length) (powS L r.length).length)).take p)) (ofTo (powS L r.length) (powS L r.length).length)) = pol (allP r c L) := by
  have hKn := allP_nodup (c := c) hL
  have hKl : ∀ k ∈ allP r c L, k < r.length := fun k hk => allP_lt hL hk
  have hK5 : ∀ k ∈ allP r c L, k < 255 := fun k hk => by have := hKl k hk; omega
  have hKlen : (allP r c L).length = L.length + (turnP r c L).length := by unfold allP; rw [List.length_append, lostP_length]
  have hsig : ∀ i, i < p → cf (syns f p r) i = sig (ya f r c) (allP r c L) i := fun i hi => by
    rw [syns_at f p r i hi]
    exact syn_sig hlen hg _ hKn hKl (fun k hk => allP_supp hlen hk) i hi
  have hpl : (powS L r.length).length = L.length := by simp [powS]
  have hof : cf (ofTo (powS L r.length) (powS L r.length).length) = pol (lostP L r.length) := by
    rw [hpl, ofTo_pol hL _ (Nat.le_refl _), ← lostP_length L r.length, List.take_length]
  have hpk : pol (allP r c L) = sMul (pol (lostP L r.length)) (pol (turnP r c L)) := pol_append _ _
  -- what is known agrees with the truth below p
  have hknown : ∀ j, j < p → cf (lowS p (mulS 29 (syns f p r) (ofTo (powS L r.length) (powS L r.length).length))) j = sMul (pol (lostP L r.length)) (sig (ya f r c) (allP r c L)) j := fun j hj => by
    rw [low_of, if_pos hj, cf_mul_s, hof, mul_comm_s]
    exact mul_agree _ hsig j hj
  have hagree : ∀ i, i < p → om (ya f r c) (allP r c L) i = sMul (pol (turnP r c L)) (cf (lowS p (mulS 29 (syns f p r) (ofTo (powS L r.length) (powS L r.length).length)))) i := fun i hi => by
    rw [mul_agree _ hknown i hi, ← key_eq, hpk]
    exact congrFun (by ac_rfl) i
  obtain ⟨W, hkey⟩ := mod_exists hagree
  have hne : ∀ k ∈ turnP r c L, sEv (om (ya f r c) (allP r c L)) (xi k) (4 * p + 100) ≠ 0 := fun k hk hz => by
    have hkK : k ∈ allP r c L := List.mem_append.2 (.inr hk)
    obtain ⟨d, hd, e1, _⟩ := forney (ya f r c) (hK5 k hkK) _ hKn hK5 hkK (N := 4 * p + 100) (by omega)
    rw [hz] at e1
    rcases bm_zero_or e1.symm with h3 | h3
    · unfold ya at h3
      rcases bm_zero_or h3 with h4 | h4
      · exact (turnP_mem.1 hk).2.1 h4
      · exact pw_ne one_d _ h4
    · exact hd h3
  have hsug := doc_sugi (p := p) (lost := L.length) (lowS p (mulS 29 (syns f p r) (ofTo (powS L r.length) (powS L r.length).length))) (trim_tidy _) (low_len p _) (turnP r c L) (turnP_nodup r c L) (fun k hk => hK5 k (List.mem_append.2 (.inr hk))) (by omega) (om (ya f r c) (allP r c L)) W ((om_low _ _).mono (by omega)) hkey (N := 4 * p + 100) (by omega) hne
  have hrd : rDiB p ((p + L.length) / 2) (trimS ((mulS 29 (syns f p r) (ofTo (powS L r.length) (powS L r.length).length)).take p)) = rDiv p L.length (lowS p (mulS 29 (syns f p r) (ofTo (powS L r.length) (powS L r.length).length))) := rfl
  unfold rFac
  rw [hrd, if_neg hsug.1, cf_mul_s, cf_mul_s, hof, cf_single, mul_comm_s (cf (rDiv p L.length _)), mul_scl_s, one_mul_s, hsug.2, hpk, mul_comm_s]
end Go.Proofs.Ytdpkeffkpecmjaa
/- Plain facts: equations over the field, solved row by row. -/
namespace Go.Proofs.Ytdpkeffkpecmjaa
open Go.RowKit
set_option linter.unusedVariables false

/-- A row held against amounts. -/
def dot (a x : Nat → UInt8) (k : Nat) : UInt8 := sg (fun j => bm 29 (a j) (x j)) k
theorem dot_ext {a b x : Nat → UInt8} {k : Nat} (h : ∀ j, j < k → a j = b j) : dot a x k = dot b x k := sg_ext _ fun j hj => by rw [h j hj]
theorem dot_scale (a x : Nat → UInt8) (c : UInt8) (k : Nat) : dot (fun j => bm 29 (a j) c) x k = bm 29 c (dot a x k) := by
  unfold dot
  rw [sg_mul]
  exact sg_ext _ fun j _ => by show bm 29 (bm 29 (a j) c) (x j) = _; rw [bm_comm 29 (a j) c, bm_assoc]
theorem dot_add (a b x : Nat → UInt8) (c : UInt8) (k : Nat) : dot (fun j => a j ^^^ bm 29 c (b j)) x k = dot a x k ^^^ bm 29 c (dot b x k) := by
  unfold dot
  rw [sg_mul, ← sg_xor]
  exact sg_ext _ fun j _ => by show bm 29 (a j ^^^ bm 29 c (b j)) (x j) = _; rw [bm_xor, bm_assoc]

abbrev Mx := Nat → Nat → UInt8
/-- Two rows exchanged. -/
def gsw (A : Mx) (i p : Nat) : Mx := fun r j => if r = i then A p j else if r = p then A i j else A r j
/-- The i-th row times x, from its column i up to q. -/
def gsc (A : Mx) (i : Nat) (x : UInt8) (q : Nat) : Mx := fun r j => if r = i ∧ i ≤ j ∧ j < q then bm 29 (A r j) x else A r j
/-- The i-th row taken from those ahead of rr, and from rr up to the column q. -/
def gel (A : Mx) (i rr q : Nat) : Mx := fun r j => if r ≠ i ∧ i ≤ j ∧ (r < rr ∨ r = rr ∧ j < q) then A r j ^^^ bm 29 (A r i) (A i j) else A r j
/-- One step. -/
def gst (A : Mx) (i p k : Nat) : Mx := gel (gsc (gsw A i p) i (inv 29 (gsw A i p i i)) (k + 1)) i k 0
/-- What holds behind i steps. -/
structure Gi (k i : Nat) (A0 A : Mx) : Prop where
  sol : ∀ x, (∀ r, r < k → dot (A0 r) x k = A0 r k) → ∀ r, r < k → dot (A r) x k = A r k
  ker : ∀ y, (∀ r, r < k → dot (A r) y k = 0) → ∀ r, r < k → dot (A0 r) y k = 0
  unit : ∀ r, r < k → ∀ c, c < i → A r c = if r = c then 1 else 0
theorem Gi.start (k : Nat) (A : Mx) : Gi k 0 A A := ⟨fun _ h => h, fun _ h => h, fun _ _ c hc => absurd hc (by omega)⟩
theorem gsw_unit {k i p : Nat} {A : Mx} (h : ∀ r, r < k → ∀ c, c < i → A r c = if r = c then 1 else 0) (hi : i ≤ p) (hp : p < k) : ∀ r, r < k → ∀ c, c < i → gsw A i p r c = if r = c then 1 else 0 := fun r hr c hc => by
  unfold gsw
  by_cases h1 : r = i
  · rw [if_pos h1, h p hp c hc, if_neg (by omega), if_neg (by omega)]
  · rw [if_neg h1]
    by_cases h2 : r = p
    · rw [if_pos h2, h i (by omega) c hc, if_neg (by omega), if_neg (by omega)]
    · rw [if_neg h2, h r hr c hc]
/-- A step, written out. -/
theorem gst_at {k i p : Nat} {A : Mx} (h : ∀ r, r < k → ∀ c, c < i → A r c = if r = c then 1 else 0) (hi : i ≤ p) (hp : p < k) (r j : Nat) (hr : r < k) (hj : j ≤ k) :
    gst A i p k r j = if r = i then bm 29 (gsw A i p i j) (inv 29 (gsw A i p i i)) else gsw A i p r j ^^^ bm 29 (gsw A i p r i) (bm 29 (gsw A i p i j) (inv 29 (gsw A i p i i))) := by
  have hu := gsw_unit h hi hp
  unfold gst
  generalize gsw A i p = S at *
  have hc : ∀ j, j ≤ k → gsc S i (inv 29 (S i i)) (k + 1) i j = bm 29 (S i j) (inv 29 (S i i)) := fun j hj => by
    unfold gsc
    by_cases hij : i ≤ j
    · rw [if_pos ⟨rfl, hij, by omega⟩]
    · rw [if_neg (by omega), hu i (by omega) j (by omega), if_neg (by omega), zero_bm]
  have hn : ∀ r j, r ≠ i → gsc S i (inv 29 (S i i)) (k + 1) r j = S r j := fun r j hr => by
    unfold gsc
    rw [if_neg (fun h => hr h.1)]
  unfold gel
  by_cases h1 : r = i
  · subst h1
    rw [if_neg (fun h => h.1 rfl), if_pos rfl, hc j hj]
  · rw [if_neg h1]
    by_cases hij : i ≤ j
    · rw [if_pos ⟨h1, hij, .inl hr⟩, hn r j h1, hn r i h1, hc j hj]
    · rw [if_neg (by omega), hn r j h1, hu i (by omega) j (by omega), if_neg (by omega), zero_bm, bm_zero, xor_zero']
theorem gsw_dot (A : Mx) (i p : Nat) (x : Nat → UInt8) (k r : Nat) : dot (gsw A i p r) x k = if r = i then dot (A p) x k else if r = p then dot (A i) x k else dot (A r) x k := by
  unfold gsw
  by_cases h1 : r = i
  · simp only [if_pos h1]
  · simp only [if_neg h1]
    by_cases h2 : r = p
    · simp only [if_pos h2]
    · simp only [if_neg h2]
theorem Gi.step {k i p : Nat} {A0 A : Mx} (h : Gi k i A0 A) (hi : i ≤ p) (hp : p < k) (hne : A p i ≠ 0) : Gi k (i + 1) A0 (gst A i p k) := by
  have hat := fun r j => gst_at h.unit hi hp r j
  have hu := gsw_unit h.unit hi hp
  have hS : ∀ x r, dot (gsw A i p r) x k = if r = i then dot (A p) x k else if r = p then dot (A i) x k else dot (A r) x k := fun x r => gsw_dot A i p x k r
  have hSk : ∀ r, gsw A i p r k = if r = i then A p k else if r = p then A i k else A r k := fun r => rfl
  have hp0 : gsw A i p i i = A p i := if_pos rfl
  generalize gst A i p k = B at *
  generalize gsw A i p = S at *
  have hSi : S i i ≠ 0 := by rw [hp0]; exact hne
  have hx1 : bm 29 (S i i) (inv 29 (S i i)) = 1 := bm_inv one_d hSi
  have hdot : ∀ x r, r < k → dot (B r) x k = if r = i then bm 29 (inv 29 (S i i)) (dot (S i) x k) else dot (S r) x k ^^^ bm 29 (S r i) (bm 29 (inv 29 (S i i)) (dot (S i) x k)) := fun x r hr => by
    by_cases h1 : r = i
    · subst h1
      rw [if_pos rfl, ← dot_scale]
      exact dot_ext fun j hj => by rw [hat r j hr (by omega), if_pos rfl]
    · rw [if_neg h1, ← dot_scale, ← dot_add]
      exact dot_ext fun j hj => by rw [hat r j hr (by omega), if_neg h1]
  refine ⟨fun x hx r hr => ?_, fun y hy r hr => ?_, fun r hr c hc => ?_⟩
  · have hs := h.sol x hx
    have hss : ∀ r, r < k → dot (S r) x k = S r k := fun r hr => by
      rw [hS, hSk, hs p hp, hs i (by omega), hs r hr]
    rw [hdot x r hr, hat r k hr (Nat.le_refl _)]
    by_cases h1 : r = i
    · rw [if_pos h1, if_pos h1, hss i (by omega), bm_comm]
    · rw [if_neg h1, if_neg h1, hss i (by omega), hss r hr, bm_comm 29 (inv 29 (S i i))]
  · refine h.ker y (fun r hr => ?_) r hr
    have hii : dot (S i) y k = 0 := by
      have := hy i (by omega)
      rw [hdot y i (by omega), if_pos rfl] at this
      rcases bm_zero_or this with h3 | h3
      · exact absurd h3 (inv_ne hSi)
      · exact h3
    have hrr : ∀ r, r < k → dot (S r) y k = 0 := fun r hr => by
      by_cases h1 : r = i
      · rw [h1]; exact hii
      · have := hy r hr
        rw [hdot y r hr, if_neg h1, hii, bm_zero, bm_zero, xor_zero'] at this
        exact this
    by_cases h1 : r = i
    · have h2 := hrr p hp
      rw [hS] at h2
      by_cases h3 : p = i
      · rw [if_pos h3] at h2
        rw [h1, ← h3]; exact h2
      · rw [if_neg h3, if_pos rfl] at h2
        rw [h1]; exact h2
    · by_cases h2 : r = p
      · have h3 := hrr i (by omega)
        rw [hS, if_pos rfl] at h3
        rw [h2]; exact h3
      · have h3 := hrr r hr
        rw [hS, if_neg h1, if_neg h2] at h3
        exact h3
  · rw [hat r c hr (by omega)]
    by_cases hci : c = i
    · subst hci
      by_cases h1 : r = c
      · rw [if_pos h1, if_pos h1, hx1]
      · rw [if_neg h1, if_neg h1, hx1, bm_one]
        exact UInt8.xor_self
    · have hz : S i c = 0 := by rw [hu i (by omega) c (by omega), if_neg (by omega)]
      rw [hz, zero_bm, bm_zero, xor_zero']
      by_cases h1 : r = i
      · rw [if_pos h1, if_neg (by omega)]
      · rw [if_neg h1]; exact hu r hr c (by omega)
/-- At the end the last column is the one solution. -/
theorem Gi.done {k : Nat} {A0 A : Mx} (h : Gi k k A0 A) {x : Nat → UInt8} (hx : ∀ r, r < k → dot (A0 r) x k = A0 r k) (r : Nat) (hr : r < k) : A r k = x r := by
  rw [← h.sol x hx r hr]
  unfold dot
  rw [show sg (fun j => bm 29 (A r j) (x j)) k = sg (fun j => if j = r then x r else 0) k from sg_ext _ fun j hj => by
    rw [h.unit r hr j hj]
    by_cases h1 : j = r
    · rw [if_pos h1.symm, if_pos h1, one_bm, h1]
    · rw [if_neg (fun h => h1 h.symm), if_neg h1, zero_bm]]
  exact sg_one _ _ _ hr
/-- Where no row can go on there are amounts that come to nothing. -/
theorem Gi.stuck {k i : Nat} {A0 A : Mx} (h : Gi k i A0 A) (hi : i < k) (hz : ∀ q, i ≤ q → q < k → A q i = 0) : ∃ y : Nat → UInt8, y i = 1 ∧ ∀ r, r < k → dot (A0 r) y k = 0 := by
  refine ⟨fun j => if j = i then 1 else if j < i then A j i else 0, if_pos rfl, h.ker _ fun r hr => ?_⟩
  unfold dot
  rw [show sg (fun j => bm 29 (A r j) (if j = i then 1 else if j < i then A j i else 0)) k = sg (fun j => (if j = r then (if r < i then A r i else 0) else 0) ^^^ (if j = i then A r i else 0)) k from sg_ext _ fun j hj => by
    by_cases h1 : j = i
    · subst h1
      rw [if_pos rfl, if_pos rfl, bm_one]
      by_cases h2 : j = r
      · rw [if_pos h2, if_neg (by omega)]
        exact UInt8.zero_xor.symm
      · rw [if_neg h2]
        exact UInt8.zero_xor.symm
    · rw [if_neg h1, if_neg h1, xor_zero']
      by_cases h3 : j < i
      · rw [if_pos h3, h.unit r hr j h3]
        by_cases h2 : j = r
        · subst h2
          rw [if_pos rfl, if_pos rfl, if_pos h3, one_bm]
        · rw [if_neg (fun h => h2 h.symm), if_neg h2, zero_bm]
      · rw [if_neg h3, bm_zero]
        by_cases h2 : j = r
        · rw [if_pos h2, if_neg (by omega)]
        · rw [if_neg h2]]
  rw [sg_xor, sg_one _ _ _ hr, sg_one _ _ _ hi]
  by_cases h4 : r < i
  · rw [if_pos h4]; exact UInt8.xor_self
  · rw [if_neg h4, hz r (by omega) hr]; rfl

theorem sl_map (g : Nat → UInt8) (P : Nat → Nat) : ∀ k, sl g ((List.range k).map P) = sg (fun j => g (P j)) k
  | 0 => rfl
  | k + 1 => by
    have happ : ∀ a b, sl g (a ++ b) = sl g a ^^^ sl g b := fun a b => by
      induction a with
      | nil => exact UInt8.zero_xor.symm
      | cons x a ih => simp only [List.cons_append, sl, ih, UInt8.xor_assoc]
    rw [List.range_succ, List.map_append, happ, sl_map g P k]
    show _ ^^^ (g (P k) ^^^ 0) = _
    rw [xor_zero']; rfl
theorem nodup_map_inj {k : Nat} {P : Nat → Nat} (hi : ∀ a b, a < k → b < k → P a = P b → a = b) : ((List.range k).map P).Nodup := by
  rw [List.nodup_iff_pairwise_ne, List.pairwise_map]
  refine List.Pairwise.imp_of_mem ?_ (List.nodup_iff_pairwise_ne.1 (List.nodup_range (n := k)))
  intro a b ha hb hne he
  exact hne (hi a b (List.mem_range.1 ha) (List.mem_range.1 hb) he)
theorem syn_zeros (f n i : Nat) : syn f (List.replicate n 0) i = 0 := by
  unfold syn
  refine eval_zero _ _ _ fun k => ?_
  rw [List.reverse_replicate]; exact cf_zeros _ _
theorem bm_pows (e : UInt8) (P f i : Nat) : bm 29 (bm 29 e (pw 29 2 (P * f))) (pw 29 2 (P * i)) = bm 29 (pw 29 2 (P * (f + i))) e := by
  rw [Nat.mul_add, pw_add, bm_assoc, bm_comm]
/-- Powers of places: amounts at them that come to nothing are nothing. -/
theorem vdm {n k f : Nat} (hn : n ≤ 255) {P : Nat → Nat} (hP : ∀ j, j < k → P j < n) (hi : ∀ a b, a < k → b < k → P a = P b → a = b) {y : Nat → UInt8} (h : ∀ r, r < k → dot (fun j => pw 29 2 (P j * (f + r))) y k = 0) : ∀ j, j < k → y j = 0 := by
  have hV : ∀ q, cf (List.map (fun q => sg (fun j => if P j = q then y j else 0) k) (List.range n)).reverse.reverse q = if q < n then sg (fun j => if P j = q then y j else 0) k else 0 := fun q => by
    rw [List.reverse_reverse]; exact cf_map n _ q
  have hl : (List.map (fun q => sg (fun j => if P j = q then y j else 0) k) (List.range n)).reverse.length = n := by simp
  generalize (List.map (fun q => sg (fun j => if P j = q then y j else 0) k) (List.range n)).reverse = r at *
  have hc0 : (List.replicate n (0 : UInt8)).length = r.length := by rw [hl]; simp
  have her : ∀ q, er r (List.replicate n 0) q = if q < n then sg (fun j => if P j = q then y j else 0) k else 0 := fun q => by
    unfold er
    rw [hV, List.reverse_replicate, cf_zeros, xor_zero']
  have hy : ∀ j, j < k → er r (List.replicate n 0) (P j) = y j := fun j hj => by
    rw [her, if_pos (hP j hj), show sg (fun j' => if P j' = P j then y j' else 0) k = sg (fun j' => if j' = j then y j else 0) k from sg_ext _ fun j' hj' => by
      by_cases h1 : j' = j
      · rw [h1, if_pos rfl, if_pos rfl]
      · rw [if_neg (fun he => h1 (hi _ _ hj' hj he)), if_neg h1]]
    exact sg_one _ _ _ hj
  have hs : ∀ q, er r (List.replicate n 0) q ≠ 0 → q ∈ (List.range k).map P := fun q hq => by
    refine Classical.byContradiction fun hm => hq ?_
    rw [her]
    split
    · exact sg_zero _ fun j hj => if_neg fun he => hm (List.mem_map.2 ⟨j, List.mem_range.2 hj, he⟩)
    · rfl
  have hK : ∀ q ∈ (List.range k).map P, q < r.length := fun q hq => by
    obtain ⟨j, hj, rfl⟩ := List.mem_map.1 hq
    rw [hl]; exact hP j (List.mem_range.1 hj)
  have hr : ∀ i, i < k → syn f r i = 0 := fun i hik => by
    rw [syn_sig (p := k) hc0 (fun i _ => syn_zeros f n i) _ (nodup_map_inj hi) hK hs i hik, sig_at, sl_map]
    refine Eq.trans ?_ (h i hik)
    exact sg_ext _ fun j hj => by
      unfold ya
      rw [hy j hj, bm_pows]
  have he := good_apart (f := f) (p := k) hc0 (by rw [hl]; exact hn) (fun i _ => syn_zeros f n i) hr _ (nodup_map_inj hi) hK hs (by simp)
  intro j hj
  rw [← hy j hj, he]
  unfold er
  exact UInt8.xor_self
end Go.Proofs.Ytdpkeffkpecmjaa
