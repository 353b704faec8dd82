/- RsRoots. -/
import Derived.Test.YtdpkeffkpecmjabRsu
namespace Go.Proofs.Ytdpkeffkpecmjab
open Go.RowKit
set_option linter.unusedVariables false

set_option maxRecDepth 100000 in
set_option maxHeartbeats 1600000 in
theorem rsRoots_out (p f : Int) (h : ¬ (1 ≤ p ∧ p ≤ 254 ∧ 0 ≤ f ∧ f ≤ 254)) (v : Value) (w : World) : Calls Try.prog 3 #[.int .i64 p, .int .i64 f, v] w fun e w' => e = .returned (.bool true) ∧ Below w.heap.size w w' := by
  have HA := hidD (alive_any w)
  have HN := hidD (fun w => rsnew_out p f h w)
  have HF := hidD (new_ok 29 2 285 (by decide) irr_d one_d)
  clear h
  go_enter Try.func3, Try.ntmps3
  go_wp2_with (first
    | (go_at_call 5; refine HA.out.mono ?_; rintro e w1 ⟨rfl, hb⟩; have HB1 := hidD hb; clear hb)
    | (go_at_call 6; refine (HN.out _).mono ?_; rintro e w2 ⟨rfl, hb⟩; have HB2 := hidD (Below.next HB1.out hb); clear hb)
    | (go_at_call 7; refine (HF.out _).mono ?_; rintro e w3 ⟨b, rfl, _, _, hb⟩; have HB3 := hidD (Below.next HB2.out hb); clear hb))
  go_ret
  exact ⟨rfl, HB3.out⟩
/-- What lies in memory while the law looks. -/
structure Seen (w : World) (c b p f g : Nat) (v : Value) (data : List UInt8) : Prop where
  cd : CdAt w c p f
  fd : FdAt w b 29 2
  gen : SlAt w (.slice (some ⟨g, 0, none⟩) (p + 1) (p + 1)) (genTo f p)
  dat : SlAt w v data
theorem Seen.next {w w' : World} {c b p f g : Nat} {v : Value} {data : List UInt8} (h : Seen w c b p f g v data) (hb : Below w.heap.size w w') : Seen w' c b p f g v data := ⟨h.cd.next hb, h.fd.next hb, h.gen.next hb, h.dat.next hb⟩
set_option maxRecDepth 100000 in
set_option maxHeartbeats 6400000 in
theorem rsRoots_in (p f : Nat) (h1 : 1 ≤ p) (h2 : p ≤ 254) (h3 : f ≤ 254) (data : List UInt8) (hdl : data.length ≤ 281474976710656) (v : Value) (w : World) (hv : SlAt w v data) : Calls Try.prog 3 #[.int .i64 p, .int .i64 f, v] w fun e w' => e = .returned (.bool true) ∧ Below w.heap.size w w' := by
  have HA := hidD (alive_any w)
  have HN := hidD (rsnew_ok p f h1 h2 h3)
  have HF := hidD (new_ok 29 2 285 (by decide) irr_d one_d)
  have HV := hidD hv
  have HGE : Hid (∀ w c, CdAt w c p f → Calls Try.prog 8 #[.pointer (some ⟨c, 0, none⟩)] w fun e w' => ∃ g, e = .returned (.slice (some ⟨g, 0, none⟩) (p + 1) (p + 1)) ∧ RowAt w' g (genTo f p) ∧ Below w.heap.size w w') := fun w c hc => (generator_any h2 w hc).mono fun e w' ⟨h1, h2, h3⟩ => ⟨_, h1, h2, h3⟩
  have HGL := hidD (gen_ok f p).1
  have HG1 := hidD (gen_ok f p).2
  have HRO : Hid (∀ w b vp, FdAt w b 29 2 → SlAt w vp (genTo f p) → Calls Try.prog 9 #[.pointer (some ⟨b, 0, none⟩), vp] w fun e w' => ∃ a k, e = .returned (.slice a p k) ∧ Below w.heap.size w w') := fun w b vp hf hs => (roots_any one_d (genTo f p) vp w hf hs).mono fun e w' ⟨u, h1, h2', h3⟩ => by
    obtain ⟨⟨a, k, hu, _, _⟩, _⟩ := h2'
    rw [roots_count f p h2] at hu
    exact ⟨a, k, by rw [h1, hu], h3⟩
  have HEX : Hid (∀ (w : World) (b : Nat) (n : Int), FdAt w b 29 2 → Calls Try.prog 11 #[.pointer (some ⟨b, 0, none⟩), .int .i64 n] w fun e w' => e = .returned (.int .u8 ((pwI 29 2 n).toNat : Int)) ∧ Below w.heap.size w w') := fun w b n hf => exp_any n w hf
  have HEV : Hid (∀ w b vp (k : Nat), k < p → FdAt w b 29 2 → SlAt w vp (genTo f p) → Calls Try.prog 10 #[.pointer (some ⟨b, 0, none⟩), vp, .int .u8 ((pwI 29 2 ((f : Int) + (k : Int))).toNat : Int)] w fun e w' => e = .returned (.int .u8 0) ∧ Below w.heap.size w w') := fun w b vp k hk hf hs => by
    have := eval_any one_d (genTo f p) (pwI 29 2 ((f : Int) + (k : Int))) vp w hf hs
    rw [(gen_root f _ p).2 ⟨k, hk, rfl⟩] at this
    exact this
  have HTU : Hid (∀ w g, data.length + p ≤ 255 → RowAt w g (encS f p data) → Calls Try.prog 14 #[.slice (some ⟨g, 0, none⟩) (data.length + p) (data.length + p)] w fun e w' => ∃ u, e = .returned u ∧ SlAt w' u (encS f p data).reverse ∧ Below w.heap.size w w') := fun w g hle hr => turned_any _ (by rw [encS_length]; omega) _ w (SlAt.row hr (encS_length f p data).symm (by omega))
  have HDV : Hid (∀ w b vp vq, data.length + p ≤ 255 → FdAt w b 29 2 → SlAt w vp (encS f p data).reverse → SlAt w vq (genTo f p) → Calls Try.prog 13 #[.pointer (some ⟨b, 0, none⟩), vp, vq] w fun e w' => ∃ v1 a k, e = .returned (.tuple #[v1, .slice a 0 k, .int .i64 0]) ∧ Below w.heap.size w w') := fun w b vp vq hle hf hp hq => by
    refine (divide_any one_d _ _ (gen_ne f p) (by rw [List.length_reverse, encS_length]; omega) vp vq w hf hp hq).mono ?_
    rintro e w' ⟨v1, v2, h1, _, h3, _, h5⟩
    rw [enc_mod f p h2] at h3
    obtain ⟨⟨a, k, hu, _, _⟩, _⟩ := h3
    exact ⟨v1, a, k, by rw [h1, hu]; rfl, h5⟩
  have HSA : Hid (∀ w g, RowAt w g (encS f p data) → SlAt w v data → data.length + p ≤ 255 → Calls Try.prog 15 #[.slice (some ⟨g, 0, none⟩) data.length (data.length + p), v] w fun e w' => e = .returned (.bool true) ∧ Below w.heap.size w w') := fun w g hr hd hle => by
    have hby := hr.by 0 data.length (data.length + p) (by rw [encS_length]; omega)
    rw [List.drop_zero, enc_front] at hby
    have := same_any data data _ v w hby hd.by'
    rw [decide_eq_true rfl] at this
    exact this
  have HENone : Hid (∀ w c, data = [] → SlAt w v data → Calls Try.prog 12 #[.pointer (some ⟨c, 0, none⟩), v] w fun e w' => e = .returned (.tuple #[.slice none 0 0, .int .i64 1]) ∧ Below w.heap.size w w') := fun w c he hs => encode_none v w (by rw [he] at hs; exact hs)
  have HEBig : Hid (∀ w c, 255 < data.length + p → CdAt w c p f → SlAt w v data → Calls Try.prog 12 #[.pointer (some ⟨c, 0, none⟩), v] w fun e w' => e = .returned (.tuple #[.slice none 0 0, .int .i64 3]) ∧ Below w.heap.size w w') := fun w c he hc hs => encode_big h2 data he v w hc hs
  have HEOk : Hid (∀ w c, 0 < data.length → data.length + p ≤ 255 → CdAt w c p f → SlAt w v data → Calls Try.prog 12 #[.pointer (some ⟨c, 0, none⟩), v] w fun e w' => ∃ g, e = .returned (.tuple #[.slice (some ⟨g, 0, none⟩) (data.length + p) (data.length + p), .int .i64 0]) ∧ w.heap.size ≤ g ∧ RowAt w' g (encS f p data) ∧ Below w.heap.size w w') := fun w c h0 hle hc hs => encode_ok h2 data h0 hle v w hc hs
  obtain ⟨⟨av, cv, rfl, hcv1, hcv2⟩, _⟩ := hv
  have hpe : (((p + 1 : Nat) : Int) == (p : Int) + 1) = true := beq_iff_eq.2 (by omega)
  have hpp : ((p : Int) == (p : Int)) = true := beq_self_eq_true _
  go_enter Try.func3, Try.ntmps3
  go_wp2_with (first
    | (go_at_call 5; refine HA.out.mono ?_; rintro e w1 ⟨rfl, hb⟩; have HB1 := hidD hb; clear hb)
    | (go_at_call 6; refine (HN.out _).mono ?_; rintro e w2 ⟨c, rfl, _, hc, hb⟩; have HC2 := hidD hc; have HB2 := hidD (Below.next HB1.out hb); clear hb hc)
    | (go_at_call 7; refine (HF.out _).mono ?_; rintro e w3 ⟨b, rfl, _, hf, hb⟩; have HF3 := hidD hf; have HC3 := hidD (HC2.out.next hb); have HB3 := hidD (Below.next HB2.out hb); clear hb hf)
    | (go_at_call 8; refine (HGE.out _ _ HC3.out).mono ?_; rintro e w4 ⟨g, rfl, hg, hb⟩; have HF4 := hidD (HF3.out.next hb); have HC4 := hidD (HC3.out.next hb); have HG4 := hidD hg; have HB4 := hidD (Below.next HB3.out hb); clear hb hg)
    | (go_at_call 9; refine (HRO.out _ _ _ HF4.out (SlAt.row HG4.out HGL.out.symm (by omega))).mono ?_; rintro e w5 ⟨a5, k5, rfl, hb⟩; have HG5 := hidD (HG4.out.next hb); have f5 : w5.cell? ⟨g, p, none⟩ = some (.int .u8 1) := (by { rw [HG5.out.cell (by rw [HGL.out]; omega)]; show some (Value.int .u8 ((cf (genTo f p) p).toNat : Int)) = _; rw [HG1.out]; rfl }); have HB5 := hidD (Below.next HB4.out hb); have HE5 : Hid (Seen w5 c b p f g (.slice av data.length cv) data) := ⟨HC4.out.next hb, HF4.out.next hb, SlAt.row HG5.out HGL.out.symm (by omega), HV.out.next HB5.out⟩; clear hb))
  go_loopw [13] (fun i wr => ∃ k : Nat, k ≤ p ∧ i = .int .i64 k ∧ Below w5.heap.size w5 wr) (fun i _ => p - (intOf i).toNat)
  case atStart => exact ⟨0, Nat.zero_le _, rfl, Below.refl _ _⟩
  case round =>
    obtain ⟨k, hk, rfl, hbel⟩ := hrel
    have HBW := hidD hbel
    clear hbel f5
    have HEW := hidD (HE5.out.next HBW.out)
    by_cases hlt : k < p
    · have hlti : (k : Int) < p := by omega
      go_wp2_with (first
        | (go_at_call 11; refine (HEX.out _ _ _ HEW.out.fd).mono ?_; rintro e w6 ⟨rfl, hb⟩; have HB6 := hidD hb; clear hb)
        | (go_at_call 10; refine (HEV.out _ _ _ k hlt (HEW.out.fd.next HB6.out) (HEW.out.gen.next HB6.out)).mono ?_; rintro e w7 ⟨rfl, hb⟩; have HB7 := hidD (Below.next HB6.out hb); clear hb))
      go_roundw
      case rel => exact ⟨k + 1, by omega, by go_num, Below.next HBW.out HB7.out⟩
      case measure => simp [intOf]; omega
    · obtain rfl : k = p := by omega
      have HBA := hidD (Below.next HB5.out HBW.out)
      by_cases hd0 : data.length = 0
      · have HDN := hidD (List.length_eq_zero_iff.1 hd0)
        clear hd0
        go_wp2_with (go_at_call 12; refine (HENone.out _ _ HDN.out HEW.out.dat).mono ?_; rintro e w6 ⟨rfl, hb⟩; have HB6 := hidD (Below.next HBA.out hb); clear hb)
        go_ret
        exact ⟨rfl, HB6.out⟩
      · by_cases hbig : 255 < data.length + k
        · go_wp2_with (go_at_call 12; refine (HEBig.out _ _ hbig HEW.out.cd HEW.out.dat).mono ?_; rintro e w6 ⟨rfl, hb⟩; have HB6 := hidD (Below.next HBA.out hb); clear hb)
          go_ret
          exact ⟨rfl, HB6.out⟩
        · have HLE : Hid (data.length + k ≤ 255) := by show _ ≤ _; omega
          have HD0 : Hid (0 < data.length) := by show _ < _; omega
          have HS1 : Hid (∀ g w, (Instr.sliceAt 22 (.slice (some ⟨g, 0, none⟩) (data.length + k) (data.length + k)) none (some (.int .i64 (data.length : Int))) none).run Try.prog w = .ok (.slice (some ⟨g, 0, none⟩) data.length (data.length + k)) w) := fun g w => by
            rw [sliceAt_h _ _ _ _ (by omega), if_neg (by omega)]
            rfl
          go_wp2_with (first
            | (go_at_call 12; refine (HEOk.out _ _ HD0.out HLE.out HEW.out.cd HEW.out.dat).mono ?_; rintro e w6 ⟨g6, rfl, hg6, hr6, hb⟩; have HR6 := hidD hr6; have HE6 := hidD (HEW.out.next hb); have HB6 := hidD (Below.next HBA.out hb); have hs1 := HS1.out g6; clear hb hr6 hg6)
            | (go_at_call 14; refine (HTU.out _ _ HLE.out HR6.out).mono ?_; rintro e w7 ⟨u7, rfl, hs7, hb⟩; have HS7 := hidD hs7; have HR7 := hidD (HR6.out.next hb); have HE7 := hidD (HE6.out.next hb); have HB7 := hidD (Below.next HB6.out hb); clear hb hs7)
            | (go_at_call 13; refine (HDV.out _ _ _ _ HLE.out HE7.out.fd HS7.out HE7.out.gen).mono ?_; rintro e w8 ⟨v8, a8, k8, rfl, hb⟩; have HR8 := hidD (HR7.out.next hb); have HE8 := hidD (HE7.out.next hb); have HB8 := hidD (Below.next HB7.out hb); clear hb)
            | (go_at_call 15; refine (HSA.out _ _ HR8.out HE8.out.dat HLE.out).mono ?_; rintro e w9 ⟨rfl, hb⟩; have HB9 := hidD (Below.next HB8.out hb); clear hb))
          go_ret
          exact ⟨rfl, HB9.out⟩
theorem rsRoots_any (p f : Int) (data : List UInt8) (hdl : data.length ≤ 281474976710656) (v : Value) (w : World) (hv : SlAt w v data) : Calls Try.prog 3 #[.int .i64 p, .int .i64 f, v] w fun e w' => e = .returned (.bool true) ∧ Below w.heap.size w w' := by
  by_cases h : 1 ≤ p ∧ p ≤ 254 ∧ 0 ≤ f ∧ f ≤ 254
  · obtain ⟨a, rfl⟩ : ∃ a : Nat, p = a := ⟨p.toNat, by omega⟩
    obtain ⟨b, rfl⟩ : ∃ b : Nat, f = b := ⟨f.toNat, by omega⟩
    exact rsRoots_in a b (by omega) (by omega) (by omega) data hdl v w hv
  · exact rsRoots_out p f h v w
end Go.Proofs.Ytdpkeffkpecmjab
