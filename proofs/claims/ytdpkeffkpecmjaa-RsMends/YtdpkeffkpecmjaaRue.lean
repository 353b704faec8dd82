/- RsMends, whole. -/
import Derived.Test.YtdpkeffkpecmjaaRud
namespace Go.Proofs.Ytdpkeffkpecmjaa
open Go.RowKit
set_option linter.unusedVariables false

set_option maxRecDepth 100000 in
set_option maxHeartbeats 1600000 in
theorem rsMends_out (p f : Int) (h : ¬ (1 ≤ p ∧ p ≤ 254 ∧ 0 ≤ f ∧ f ≤ 254)) (vd vt vl vm : Value) (w : World) : Calls Try.prog 6 #[.int .i64 p, .int .i64 f, vd, vt, vl, vm] w fun e w' => e = .returned (.bool true) ∧ Below w.heap.size w w' := by
  have HA := hidD (alive_any w)
  have HN := hidD (fun w => rsnew_out p f h w)
  clear h
  go_enter Try.func6, Try.ntmps6
  go_wp2_with (first
    | (go_at_call 10; refine HA.out.mono ?_; rintro e w1 ⟨rfl, hb⟩; have HB1 := hidD hb; clear hb)
    | (go_at_call 30; refine (HN.out _).mono ?_; rintro e w2 ⟨rfl, hb⟩; have HB2 := hidD (Below.next HB1.out hb); clear hb))
  go_ret
  exact ⟨rfl, HB2.out⟩
set_option maxRecDepth 100000 in
set_option maxHeartbeats 1600000 in
theorem rsMends_none (p f : Nat) (h1 : 1 ≤ p) (h2 : p ≤ 254) (h3 : f ≤ 254) (vd vt vl vm : Value) (w : World) (hvd : SlAt w vd []) : Calls Try.prog 6 #[.int .i64 p, .int .i64 f, vd, vt, vl, vm] w fun e w' => e = .returned (.bool true) ∧ Below w.heap.size w w' := by
  have HA := hidD (alive_any w)
  have HN := hidD (rsnew_ok p f h1 h2 h3)
  have HVD := hidD hvd
  have HEN : Hid (∀ w c, SlAt w vd [] → Calls Try.prog 12 #[.pointer (some ⟨c, 0, none⟩), vd] w fun e w' => e = .returned (.tuple #[.slice none 0 0, .int .i64 1]) ∧ Below w.heap.size w w') := fun w c hs => encode_none vd w hs
  obtain ⟨⟨ad, cd, rfl, hcd1, hcd2⟩, _⟩ := hvd
  simp only [List.length_nil] at *
  go_enter Try.func6, Try.ntmps6
  go_wp2_with (first
    | (go_at_call 10; refine HA.out.mono ?_; rintro e w1 ⟨rfl, hb⟩; have HB1 := hidD hb; clear hb)
    | (go_at_call 30; refine (HN.out _).mono ?_; rintro e w2 ⟨c, rfl, _, hc, hb⟩; have HB2 := hidD (Below.next HB1.out hb); clear hb)
    | (go_at_call 12; refine (HEN.out _ _ (HVD.out.next HB2.out)).mono ?_; rintro e w3 ⟨rfl, hb⟩; have HB3 := hidD (Below.next HB2.out hb); clear hb))
  go_ret
  exact ⟨rfl, HB3.out⟩
set_option maxRecDepth 100000 in
set_option maxHeartbeats 1600000 in
theorem rsMends_big (p f : Nat) (h1 : 1 ≤ p) (h2 : p ≤ 254) (h3 : f ≤ 254) (data : List UInt8) (hdl : data.length ≤ 281474976710656) (hbig : 255 < data.length + p) (vd vt vl vm : Value) (w : World) (hvd : SlAt w vd data) : Calls Try.prog 6 #[.int .i64 p, .int .i64 f, vd, vt, vl, vm] w fun e w' => e = .returned (.bool true) ∧ Below w.heap.size w w' := by
  have HA := hidD (alive_any w)
  have HN := hidD (rsnew_ok p f h1 h2 h3)
  have HVD := hidD hvd
  have HEN : Hid (∀ w c, CdAt w c p f → SlAt w vd data → Calls Try.prog 12 #[.pointer (some ⟨c, 0, none⟩), vd] w fun e w' => e = .returned (.tuple #[.slice none 0 0, .int .i64 3]) ∧ Below w.heap.size w w') := fun w c hc hs => encode_big h2 data hbig vd w hc hs
  obtain ⟨⟨ad, cd, rfl, hcd1, hcd2⟩, _⟩ := hvd
  have hn0 : ((data.length : Int) == 0) = false := beq_eq_false_iff_ne.2 (by omega)
  have hni : (255 : Int) < (data.length : Int) + p := by omega
  go_enter Try.func6, Try.ntmps6
  go_wp2_with (first
    | (go_at_call 10; refine HA.out.mono ?_; rintro e w1 ⟨rfl, hb⟩; have HB1 := hidD hb; clear hb)
    | (go_at_call 30; refine (HN.out _).mono ?_; rintro e w2 ⟨c, rfl, _, hc, hb⟩; have HC2 := hidD hc; have HB2 := hidD (Below.next HB1.out hb); clear hb hc)
    | (go_at_call 12; refine (HEN.out _ _ HC2.out (HVD.out.next HB2.out)).mono ?_; rintro e w3 ⟨rfl, hb⟩; have HB3 := hidD (Below.next HB2.out hb); clear hb))
  go_ret
  exact ⟨rfl, HB3.out⟩
theorem rsMends_any (p f : Int) (data : List UInt8) (hdl : data.length ≤ 281474976710656) (turned lost : List Int) (htl : turned.length ≤ 281474976710656) (hll : lost.length ≤ 281474976710656) (masks : List UInt8) (hml : masks.length ≤ 281474976710656)
    (vd vt vl vm : Value) (w : World) (hvd : SlAt w vd data) (hvt : IlAt w vt turned) (hvl : IlAt w vl lost) (hvm : SlAt w vm masks) : Calls Try.prog 6 #[.int .i64 p, .int .i64 f, vd, vt, vl, vm] w fun e w' => e = .returned (.bool true) ∧ Below w.heap.size w w' := by
  by_cases h : 1 ≤ p ∧ p ≤ 254 ∧ 0 ≤ f ∧ f ≤ 254
  · obtain ⟨P, rfl⟩ : ∃ P : Nat, p = P := ⟨p.toNat, by omega⟩
    obtain ⟨F, rfl⟩ : ∃ F : Nat, f = F := ⟨f.toNat, by omega⟩
    by_cases h0 : data.length = 0
    · obtain rfl : data = [] := List.length_eq_zero_iff.1 h0
      exact rsMends_none P F (by omega) (by omega) (by omega) vd vt vl vm w hvd
    · by_cases hbig : 255 < data.length + P
      · exact rsMends_big P F (by omega) (by omega) (by omega) data hdl hbig vd vt vl vm w hvd
      · by_cases hcase : (atTo lost (data.length + P) lost.length).length ≤ P
        · exact rsMends_few P F (by omega) (by omega) (by omega) data (by omega) (by omega) turned lost htl hll masks hml hcase vd vt vl vm w hvd hvt hvl hvm
        · exact rsMends_many P F (by omega) (by omega) (by omega) data (by omega) (by omega) turned lost htl hll masks hml (by omega) vd vt vl vm w hvd hvt hvl hvm
  · exact rsMends_out p f h vd vt vl vm w
end Go.Proofs.Ytdpkeffkpecmjaa
