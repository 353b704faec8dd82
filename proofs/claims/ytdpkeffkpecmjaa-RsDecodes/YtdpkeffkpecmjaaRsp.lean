/- What mend answers: a word too short or too long; the last three cases. -/
import Derived.Test.YtdpkeffkpecmjaaRso
namespace Go.Proofs.Ytdpkeffkpecmjaa
open Go.RowKit
set_option linter.unusedVariables false

set_option maxRecDepth 100000 in
set_option maxHeartbeats 800000 in
theorem mend_short {c p f : Nat} (word : List UInt8) (h : word.length ≤ p) (vw vl : Value) (w : World) (hc : CdAt w c p f) (hvw : SlAt w vw word) : Calls Try.prog 47 #[.pointer (some ⟨c, 0, none⟩), vw, vl] w fun e w' => e = .returned (.tuple #[.slice none 0 0, .slice none 0 0, .int .i64 1]) ∧ Below w.heap.size w w' := by
  have HS := hidD (syndromes_short word h vw w hc hvw)
  clear hc hvw
  go_enter Try.func47, Try.ntmps47
  go_wp2_with fail
  refine wp_scope_jumps 0 (EndM (.pointer (some ⟨c, 0, none⟩)) vw vl (fun _ _ e8 w' => e8 = 1 ∧ Below w.heap.size w w')) (fun _ _ => 0) rfl ?_ ?_
  · go_wp2_with (go_at_call 14; refine HS.out.mono ?_; rintro e w2 ⟨rfl, hb2⟩; have HB2 := hidD hb2; clear hb2)
    go_step3
    refine ⟨rfl, ?_⟩
    (repeat apply Exists.intro)
    exact ⟨rfl, rfl, HB2.out⟩
  · rintro a' w' ⟨m6, l7, e8, u9, u10, u11, u12, u13, u14, u15, u16, u17, u18, u19, u20, u21, u22, u23, u24, u25, u26, u27, u28, u29, u30, u31, u32, u33, u34, u35, u36, u37, u38, u39, u40, u41, u42, u43, u44, u45, u46, u47, u48, u49, u50, u51, u52, u53, u54, u55, u56, u57, u58, u59, u60, u61, rfl, rfl, hb⟩
    have HB := hidD hb
    clear hb
    go_wp2_with fail
    refine jump_ret ?_
    refine bodyPost_ret (v := .tuple #[.slice none 0 0, .slice none 0 0, .int .i64 1]) (by simp [results, Try.results47, go_sem]) rfl ?_
    exact ⟨rfl, HB.out⟩

set_option maxRecDepth 100000 in
set_option maxHeartbeats 800000 in
theorem mend_long {c p f : Nat} (word : List UInt8) (h : p < word.length) (h2 : 255 < word.length) (vw vl : Value) (w : World) (hc : CdAt w c p f) (hvw : SlAt w vw word) : Calls Try.prog 47 #[.pointer (some ⟨c, 0, none⟩), vw, vl] w fun e w' => e = .returned (.tuple #[.slice none 0 0, .slice none 0 0, .int .i64 3]) ∧ Below w.heap.size w w' := by
  have HS := hidD (syndromes_long word h h2 vw w hc hvw)
  clear hc hvw
  go_enter Try.func47, Try.ntmps47
  go_wp2_with fail
  refine wp_scope_jumps 0 (EndM (.pointer (some ⟨c, 0, none⟩)) vw vl (fun _ _ e8 w' => e8 = 3 ∧ Below w.heap.size w w')) (fun _ _ => 0) rfl ?_ ?_
  · go_wp2_with (go_at_call 14; refine HS.out.mono ?_; rintro e w2 ⟨rfl, hb2⟩; have HB2 := hidD hb2; clear hb2)
    go_step3
    refine ⟨rfl, ?_⟩
    (repeat apply Exists.intro)
    exact ⟨rfl, rfl, HB2.out⟩
  · rintro a' w' ⟨m6, l7, e8, u9, u10, u11, u12, u13, u14, u15, u16, u17, u18, u19, u20, u21, u22, u23, u24, u25, u26, u27, u28, u29, u30, u31, u32, u33, u34, u35, u36, u37, u38, u39, u40, u41, u42, u43, u44, u45, u46, u47, u48, u49, u50, u51, u52, u53, u54, u55, u56, u57, u58, u59, u60, u61, rfl, rfl, hb⟩
    have HB := hidD hb
    clear hb
    go_wp2_with fail
    refine jump_ret ?_
    refine bodyPost_ret (v := .tuple #[.slice none 0 0, .slice none 0 0, .int .i64 3]) (by simp [results, Try.results47, go_sem]) rfl ?_
    exact ⟨rfl, HB.out⟩

set_option maxRecDepth 100000 in
set_option maxHeartbeats 6400000 in
theorem mend_unlike {c p f : Nat} (hp1 : 1 ≤ p) (hp : p ≤ 254) (hf : f ≤ 254) (word : List UInt8) (hw1 : p < word.length) (hw2 : word.length ≤ 255) (L : List Int) (h : areS L word.length = true) (h2 : L.length ≤ p) (h3 : cf (othersS p (syns f p word) (powS L word.length)) 0 ≠ 0) (h4 : ¬ (dPl f p word L).length + 1 = (dLoc f p word L).length) (vw vl : Value) (w : World) (hc : CdAt w c p f) (hvw : SlAt w vw word) (hvl : IlAt w vl L) :
    Calls Try.prog 47 #[.pointer (some ⟨c, 0, none⟩), vw, vl] w fun e w' => e = .returned (.tuple #[.slice none 0 0, .slice none 0 0, .int .i64 110]) ∧ Below w.heap.size w w' := by
  have hL := are_len h
  have HVW := hidD hvw
  have HS := hidD (syndromes_ok hp hf word hw1 hw2 vw w hc hvw)
  have HAP : Hid (∀ w', Below w.heap.size w w' → Calls Try.prog 60 #[vl, .int .i64 word.length] w' fun e w2 => e = .returned (.bool true) ∧ Below w'.heap.size w' w2) := fun w' hb => by
    have := arePlaces_any L (by omega) word.length hw2 vl w' (hvl.next hb)
    rw [h] at this; exact this
  have HPO : Hid (∀ w', Below w.heap.size w w' → Calls Try.prog 62 #[vl, .int .i64 word.length] w' fun e w2 => ∃ v2, e = .returned v2 ∧ IlAt w2 v2 (powS L word.length) ∧ Below w'.heap.size w' w2) := fun w' hb => by
    have hpl : (powS L word.length).length = L.length := by simp [powS]
    refine (powersOf_any L (by omega) (fun k hk => ⟨(are_at h k hk).1, by have := (are_at h k hk).2.1; omega⟩) word.length hw2 vl w' (hvl.next hb)).mono ?_
    rintro e w2 ⟨rfl, hr, hb2⟩
    have hil := hr.il (by omega)
    rw [hpl] at hil
    exact ⟨_, rfl, hil, hb2⟩
  have HCD := hidD hc
  have HSY : Hid ((syns f p word).length = p) := by show _ = _; simp [syns]
  have HLN := hidD (dLoc_len f p hp word L (by omega))
  have HLO : Hid (∀ w' vs v4, Below w.heap.size w w' → SlAt w' vs (syns f p word) → IlAt w' v4 (powS L word.length) → Calls Try.prog 61 #[.pointer (some ⟨c, 0, none⟩), vs, v4] w' fun e w2 => ∃ v5, e = .returned (.tuple #[v5, .bool true]) ∧ SlAt w2 v5 (dLoc f p word L) ∧ Below w'.heap.size w' w2) := fun w' vs v4 hb hs hi => by
    refine (locate_few hp1 hp (syns f p word) (by simp [syns]; omega) (powS L word.length) (by simp [powS]; exact h2) vs v4 w' (HCD.out.next hb) hs hi).mono ?_
    rintro e w2 ⟨v5, rfl, hv5, hb2⟩
    refine ⟨v5, ?_, hv5 h3, hb2⟩
    rw [show (cf (othersS p (syns f p word) (powS L word.length)) 0 != 0) = true from bne_iff_ne.2 h3]
  have HPL : Hid (∀ w' v5, Below w.heap.size w w' → SlAt w' v5 (dLoc f p word L) → Calls Try.prog 63 #[.pointer (some ⟨c, 0, none⟩), v5, .int .i64 word.length] w' fun e w2 => ∃ u, e = .returned (.tuple #[u, .bool false]) ∧ Below w'.heap.size w' w2) := fun w' v5 hb hs => by
    refine (placesOf_any (dLoc f p word L) HLN.out word.length hw2 v5 w' (HCD.out.next hb) hs).mono ?_
    rintro e w2 ⟨u, rfl, _, hb2⟩
    refine ⟨u, ?_, hb2⟩
    rw [show (((placesTo (dLoc f p word L) word.length word.length).length : Int) == ((dLoc f p word L).length : Int) - 1) = false from by
      have h5 : ((placesTo (dLoc f p word L) word.length word.length).length : Int) ≠ ((dLoc f p word L).length : Int) - 1 := fun h6 => h4 (by unfold dPl; omega)
      exact beq_eq_false_iff_ne.2 h5]
  obtain ⟨⟨aw, cw, rfl, hcw1, hcw2⟩, _⟩ := hvw
  clear hc hvl h3
  generalize hnn : word.length = n at *
  go_enter Try.func47, Try.ntmps47
  go_wp2_with fail
  refine wp_scope_jumps 0 (EndM (.pointer (some ⟨c, 0, none⟩)) (.slice aw n cw) vl (fun _ _ e8 w' => e8 = 110 ∧ Below w.heap.size w w')) (fun _ _ => 0) rfl ?_ ?_
  · go_wp2_with (first
      | (go_at_call 14; refine HS.out.mono ?_; rintro e w2 ⟨g2, rfl, hg2, hr2, hb2⟩; have HB2 := hidD hb2; have HR2 := hidD hr2; clear hb2 hr2)
      | (go_at_call 60; refine (HAP.out _ HB2.out).mono ?_; rintro e w3 ⟨rfl, hb3⟩; have HB3 := hidD (Below.next HB2.out hb3); have HB23 := hidD hb3; clear hb3)
      | (go_at_call 62; refine (HPO.out _ HB3.out).mono ?_; rintro e w4 ⟨v4, rfl, hi4, hb4⟩; have HI4 := hidD hi4; have HB4 := hidD (Below.next HB3.out hb4); have HS4 := hidD ((SlAt.row HR2.out HSY.out.symm (by omega)).next (Below.next HB23.out hb4)); clear hb4 hi4)
      | (go_at_call 61; refine (HLO.out _ _ _ HB4.out HS4.out HI4.out).mono ?_; rintro e w5 ⟨v5, rfl, hv5, hb5⟩; have HB5 := hidD (Below.next HB4.out hb5); have HS5 := hidD (HS4.out.next hb5); have HV5 := hidD hv5; clear hb5 hv5)
      | (go_at_call 63; refine (HPL.out _ _ HB5.out HV5.out).mono ?_; rintro e w6 ⟨u6, rfl, hb6⟩; have HB6 := hidD (Below.next HB5.out hb6); clear hb6))
    go_step3
    refine ⟨rfl, ?_⟩
    (repeat apply Exists.intro)
    exact ⟨rfl, rfl, HB6.out⟩
  · rintro a' w' ⟨m6, l7, e8, u9, u10, u11, u12, u13, u14, u15, u16, u17, u18, u19, u20, u21, u22, u23, u24, u25, u26, u27, u28, u29, u30, u31, u32, u33, u34, u35, u36, u37, u38, u39, u40, u41, u42, u43, u44, u45, u46, u47, u48, u49, u50, u51, u52, u53, u54, u55, u56, u57, u58, u59, u60, u61, rfl, rfl, hb⟩
    have HB := hidD hb
    clear hb
    go_wp2_with fail
    refine jump_ret ?_
    refine bodyPost_ret (v := .tuple #[.slice none 0 0, .slice none 0 0, .int .i64 110]) (by simp [results, Try.results47, go_sem]) rfl ?_
    exact ⟨rfl, HB.out⟩
end Go.Proofs.Ytdpkeffkpecmjaa
