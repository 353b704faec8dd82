/- RsApart. -/
import Derived.Test.YtdpkeffkpecmjaaRta
namespace Go.Proofs.Ytdpkeffkpecmjaa
open Go.RowKit
set_option linter.unusedVariables false

set_option maxRecDepth 100000 in
set_option maxHeartbeats 6400000 in
theorem rsApart_in (p f : Nat) (h1 : 1 ≤ p) (h2 : p ≤ 254) (h3 : f ≤ 254) (a b : List UInt8) (N : Nat) (hN : N = min a.length b.length) (hn0 : 0 < N) (hn5 : N + p ≤ 255) (va vb : Value) (w : World) (hva : SlAt w va a) (hvb : SlAt w vb b) : Calls Try.prog 8 #[.int .i64 p, .int .i64 f, va, vb] w fun e w' => e = .returned (.bool true) ∧ Below w.heap.size w w' := by
  have HA := hidD (alive_any w)
  have HNW := hidD (rsnew_ok p f h1 h2 h3)
  obtain ⟨⟨aa, ca, rfl, hca1, hca2⟩, hba⟩ := hva
  obtain ⟨⟨ab, cb, rfl, hcb1, hcb2⟩, hbb⟩ := hvb
  obtain ⟨a1, hsa, hta⟩ := slice_take hba hca1 N (by omega)
  obtain ⟨b1, hsb, htb⟩ := slice_take hbb hcb1 N (by omega)
  have hla : (a.take N).length = N := by rw [List.length_take]; omega
  have hlb : (b.take N).length = N := by rw [List.length_take]; omega
  rw [hla] at hsa hta
  rw [hlb] at hsb htb
  have HSA : Hid (SlAt w (.slice a1 N ca) (a.take N)) := ⟨⟨a1, ca, by rw [hla], by omega, hca2⟩, hta⟩
  have HSB : Hid (SlAt w (.slice b1 N cb) (b.take N)) := ⟨⟨b1, cb, by rw [hlb], by omega, hcb2⟩, htb⟩
  have HEN : Hid (∀ w c v data, data.length = N → CdAt w c p f → SlAt w v data → Calls Try.prog 12 #[.pointer (some ⟨c, 0, none⟩), v] w fun e w' => ∃ g, e = .returned (.tuple #[.slice (some ⟨g, 0, none⟩) (N + p) (N + p), .int .i64 0]) ∧ RowAt w' g (encS f p data) ∧ Below w.heap.size w w') := fun w c v data hd hc hs => by
    have := encode_ok h2 data (by omega) (by omega) v w hc hs
    rw [hd] at this
    exact this.mono fun e w' ⟨g, h1, _, h2, h3⟩ => ⟨g, h1, h2, h3⟩
  have HLX : Hid ((encS f p (a.take N)).length = N + p) := by show _ = _; rw [encS_length, hla]
  have HLY : Hid ((encS f p (b.take N)).length = N + p) := by show _ = _; rw [encS_length, hlb]
  have HSM : Hid (∀ w, SlAt w (.slice a1 N ca) (a.take N) → SlAt w (.slice b1 N cb) (b.take N) → Calls Try.prog 16 #[.slice a1 N ca, .slice b1 N cb] w fun e w' => e = .returned (.bool (decide (a.take N = b.take N))) ∧ Below w.heap.size w w') := fun w hx hy => same_any _ _ _ _ w hx.by' hy.by'
  have HEND : Hid (a.take N = b.take N ∧ cntTo (encS f p (a.take N)) (encS f p (b.take N)) (N + p) = 0 ∨ a.take N ≠ b.take N ∧ p < cntTo (encS f p (a.take N)) (encS f p (b.take N)) (N + p)) := by
    show _ ∨ _
    by_cases he : a.take N = b.take N
    · exact .inl ⟨he, by rw [he]; exact cnt_same _ _⟩
    · refine .inr ⟨he, ?_⟩
      have := cnt_apart (f := f) (p := p) (x := encS f p (a.take N)) (y := encS f p (b.take N)) (by rw [HLX.out, HLY.out]) (by rw [HLX.out]; omega) (enc_syn f p _) (enc_syn f p _) (fun h => he (enc_inj (by rw [hla, hlb]) h))
      rwa [HLX.out] at this
  have HLA := hidD hla
  have HLB := hidD hlb
  clear hta htb hba hbb hla hlb
  generalize a.take N = x at *
  generalize b.take N = y at *
  generalize a.length = LA at *
  generalize b.length = LB at *
  have hcase : (LA ≤ LB ∧ N = LA) ∨ (LB < LA ∧ N = LB) := by omega
  clear hN
  have hNi : ((N : Int) == 0) = false := beq_eq_false_iff_ne.2 (by omega)
  have hNp : ¬ (255 : Int) < (N : Int) + p := by omega
  have hNe : (((N + p : Nat) : Int) == (N : Int) + (p : Int)) = true := beq_iff_eq.2 (by omega)
  rcases hcase with ⟨hle, hN⟩ | ⟨hle, hN⟩
  all_goals
    subst hN
    go_enter Try.func8, Try.ntmps8
    go_wp2_with (first
      | (go_at_call 10; refine HA.out.mono ?_; rintro e w1 ⟨rfl, hb⟩; have HB1 := hidD hb; clear hb)
      | (go_at_call 30; refine (HNW.out _).mono ?_; rintro e w2 ⟨c, rfl, _, hc, hb⟩; have HC2 := hidD hc; have HB2 := hidD (Below.next HB1.out hb); clear hb hc HB1)
      | (go_at_call 12; refine (HEN.out _ _ _ x HLA.out HC2.out (HSA.out.next HB2.out)).mono ?_; rintro e w3 ⟨g3, rfl, hr3, hb⟩; have HC3 := hidD (HC2.out.next hb); have HR3 := hidD hr3; have HB3 := hidD (Below.next HB2.out hb); clear hb hr3 HC2 HB2)
      | (go_at_call 12; refine (HEN.out _ _ _ y HLB.out HC3.out (HSB.out.next HB3.out)).mono ?_; rintro e w4 ⟨g4, rfl, hr4, hb⟩; have HR4 := hidD (HR3.out.next hb); have HQ4 := hidD hr4; have HB4 := hidD (Below.next HB3.out hb); clear hb hr4 HC3 HB3 HR3))
    go_loopw [15, 16] (fun q i wr => ∃ k : Nat, k ≤ N + p ∧ i = .int .i64 k ∧ q = .int .i64 (cntTo (encS f p x) (encS f p y) k : Nat) ∧ Below w4.heap.size w4 wr) (fun _ i _ => N + p - (intOf i).toNat)
    case atStart => exact ⟨0, Nat.zero_le _, rfl, rfl, Below.refl _ _⟩
    case round =>
      obtain ⟨k, hk, rfl, rfl, hbel⟩ := hrel
      have HBW := hidD hbel
      clear hbel
      by_cases hlt : k < N + p
      · have hlti : (k : Int) < ((N + p : Nat) : Int) := by omega
        have HCL := hidD (cnt_le (encS f p x) (encS f p y) k)
        have f1 : wr.cell? ⟨g3, k, none⟩ = some (.int .u8 ((cf (encS f p x) k).toNat : Int)) := (HR4.out.next HBW.out).cell (by rw [HLX.out]; exact hlt)
        have f2 : wr.cell? ⟨g4, k, none⟩ = some (.int .u8 ((cf (encS f p y) k).toNat : Int)) := (HQ4.out.next HBW.out).cell (by rw [HLY.out]; exact hlt)
        by_cases he : cf (encS f p x) k = cf (encS f p y) k
        · have HCT : Hid (cntTo (encS f p x) (encS f p y) (k + 1) = cntTo (encS f p x) (encS f p y) k) := by show _ = _; rw [cntTo, if_pos he]
          rw [he] at f1
          have hbb : (((cf (encS f p y) k).toNat : Int) == ((cf (encS f p y) k).toNat : Int)) = true := beq_self_eq_true _
          generalize ((cf (encS f p y) k).toNat : Int) = z at *
          generalize cntTo (encS f p x) (encS f p y) k = C at *
          clear he
          go_wp2_with fail
          go_quiet (fail)
          go_wp2_with fail
          go_roundw
          case rel => exact ⟨k + 1, by omega, by go_num, by rw [HCT.out], below_drewN HBW.out _⟩
          case measure => simp [intOf]; omega
        · have HCT : Hid (cntTo (encS f p x) (encS f p y) (k + 1) = cntTo (encS f p x) (encS f p y) k + 1) := by show _ = _; rw [cntTo, if_neg he]
          have hne : ((cf (encS f p x) k).toNat : Int) ≠ ((cf (encS f p y) k).toNat : Int) := fun hx => he (UInt8.toNat.inj (by omega))
          have hbb : (((cf (encS f p x) k).toNat : Int) == ((cf (encS f p y) k).toNat : Int)) = false := beq_eq_false_iff_ne.2 hne
          generalize ((cf (encS f p x) k).toNat : Int) = z at *
          generalize ((cf (encS f p y) k).toNat : Int) = z' at *
          generalize cntTo (encS f p x) (encS f p y) k = C at *
          have hC : C ≤ k := HCL.out
          clear he
          go_wp2_with fail
          go_quiet (fail)
          go_wp2_with fail
          go_roundw
          case rel => exact ⟨k + 1, by omega, by go_num, by rw [HCT.out]; go_num, below_drewN HBW.out _⟩
          case measure => simp [intOf]; omega
      · obtain rfl : k = N + p := by omega
        have HX := hidD (HSA.out.next (Below.next HB4.out HBW.out))
        have HY := hidD (HSB.out.next (Below.next HB4.out HBW.out))
        have HBB := hidD (Below.next HB4.out HBW.out)
        have HDR : Hid (Below wr.heap.size wr wr.drew) := (Below.refl _ _).drew
        have HKK : Hid (∀ wB, Below wr.heap.size wr wB → ∃ i : KB wr [], wB = i.v) := fun wB hb => ⟨⟨wB, fun x hx => by simp at hx⟩, rfl⟩
        have hE := HEND.out
        clear hk hlt
        generalize cntTo (encS f p x) (encS f p y) (N + p) = C at *
        rcases hE with ⟨he, hC⟩ | ⟨he, hC⟩
        · have HD : Hid (decide (x = y) = true) := decide_eq_true he
          have hCi : (C : Int) = 0 := by omega
          have hCb : ((C : Int) == 0) = true := by rw [hCi]; rfl
          clear hC he
          rw [HD.out] at HSM
          go_wp2_with fail
          refine wp_region_seg [0, 0, 0, 0, 0, 0, 1, 2, 2, 2, 2, 2, 2, 2, 2, 2, 2] 1 17 [] (by kernel_rfl) (by kernel_rfl) (by kernel_rfl) (by kernel_rfl) (by kernel_rfl) (by kernel_rfl) (by kernel_rfl) (by kernel_rfl) (fun _ _ _ _ _ h => h) ?_
          simp only [SegW, pk, Nat.reduceMul, Nat.reduceAdd, Nat.reduceBEq, cond_true, cond_false]
          repeat (go_big_quiet_step (fail))
          refine wpQuiet_nil ?_
          go_wp2_with (go_at_call 16; refine (HSM.out _ (HX.out.next HDR.out) (HY.out.next HDR.out)).mono ?_; rintro e w5 ⟨rfl, hb5⟩)
          have HB5 : Hid (Below wr.heap.size wr w5) := HDR.out.trans hb5
          clear hb5
          refine ⟨HKK.out _ HB5.out, ?_⟩
          repeat (go_big_quiet_step (fail))
          refine wpQuiet_nil ?_
          go_wp2_with fail
          go_ret
          exact ⟨rfl, Below.next HBB.out HB5.out⟩
        · have HD : Hid (decide (x = y) = false) := decide_eq_false he
          have hCi : (p : Int) < C := by omega
          clear hC he
          rw [HD.out] at HSM
          go_wp2_with fail
          refine wp_region_seg [0, 0, 0, 0, 0, 0, 1, 2, 2, 2, 2, 2, 2, 2, 2, 2, 2] 1 17 [] (by kernel_rfl) (by kernel_rfl) (by kernel_rfl) (by kernel_rfl) (by kernel_rfl) (by kernel_rfl) (by kernel_rfl) (by kernel_rfl) (fun _ _ _ _ _ h => h) ?_
          simp only [SegW, pk, Nat.reduceMul, Nat.reduceAdd, Nat.reduceBEq, cond_true, cond_false]
          repeat (go_big_quiet_step (fail))
          refine wpQuiet_nil ?_
          go_wp2_with (go_at_call 16; refine (HSM.out _ (HX.out.next HDR.out) (HY.out.next HDR.out)).mono ?_; rintro e w5 ⟨rfl, hb5⟩)
          have HB5 : Hid (Below wr.heap.size wr w5) := HDR.out.trans hb5
          clear hb5
          refine ⟨HKK.out _ HB5.out, ?_⟩
          repeat (go_big_quiet_step (fail))
          refine wpQuiet_nil ?_
          go_wp2_with fail
          go_ret
          exact ⟨rfl, Below.next HBB.out HB5.out⟩
theorem rsApart_any (p f : Int) (a b : List UInt8) (hal : a.length ≤ 281474976710656) (hbl : b.length ≤ 281474976710656) (va vb : Value) (w : World) (hva : SlAt w va a) (hvb : SlAt w vb b) : Calls Try.prog 8 #[.int .i64 p, .int .i64 f, va, vb] w fun e w' => e = .returned (.bool true) ∧ Below w.heap.size w w' := by
  by_cases h : 1 ≤ p ∧ p ≤ 254 ∧ 0 ≤ f ∧ f ≤ 254
  · obtain ⟨P, rfl⟩ : ∃ P : Nat, p = P := ⟨p.toNat, by omega⟩
    obtain ⟨F, rfl⟩ : ∃ F : Nat, f = F := ⟨f.toNat, by omega⟩
    by_cases hn : min a.length b.length = 0 ∨ 255 < min a.length b.length + P
    · exact rsApart_none P F (by omega) (by omega) (by omega) a b hal hbl hn va vb w hva hvb
    · exact rsApart_in P F (by omega) (by omega) (by omega) a b _ rfl (by omega) (by omega) va vb w hva hvb
  · exact rsApart_out p f h a b va vb w hva hvb
end Go.Proofs.Ytdpkeffkpecmjaa
