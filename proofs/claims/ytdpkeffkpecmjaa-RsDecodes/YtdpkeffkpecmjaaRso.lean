/- What mend answers, where a place is none or there are too many. -/
import Derived.Test.YtdpkeffkpecmjaaGd
namespace Go.Proofs.Ytdpkeffkpecmjaa
open Go.RowKit
set_option linter.unusedVariables false

theorem are_at {L : List Int} {n : Nat} (h : areS L n = true) (i : Nat) (hi : i < L.length) : 0 ≤ L.getD i 0 ∧ L.getD i 0 < n ∧ (L.take i).contains (L.getD i 0) = false := by
  rw [areS, List.all_eq_true] at h
  have := h i (List.mem_range.2 hi)
  rw [okAt, Bool.and_eq_true, Bool.and_eq_true, Bool.not_eq_true'] at this
  exact ⟨of_decide_eq_true this.1, of_decide_eq_true this.2.1, this.2.2⟩
theorem are_len {L : List Int} {n : Nat} (h : areS L n = true) : L.length ≤ n := by
  rcases Nat.lt_or_ge n L.length with hlt | hge
  · obtain ⟨i, j, hij, hj, he⟩ := pigeon n (fun i => (L.getD i 0).toNat) (fun i hi => by have := are_at h i (by omega); show (L.getD i 0).toNat < n; omega)
    have h1 := are_at h i (by omega)
    have h2 := are_at h j (by omega)
    have he' : L.getD i 0 = L.getD j 0 := by
      have he2 : (L.getD i 0).toNat = (L.getD j 0).toNat := he
      omega
    have hin : L.getD j 0 ∈ L.take j := by
      rw [← he', List.getD_eq_getElem?_getD, List.getElem?_eq_getElem (show i < L.length by omega)]
      exact List.mem_take_iff_getElem.2 ⟨i, by omega, rfl⟩
    have h3 := h2.2.2
    rw [List.contains_eq_mem, decide_eq_false_iff_not] at h3
    exact absurd hin h3
  · exact hge

set_option maxRecDepth 100000 in
set_option maxHeartbeats 3200000 in
theorem mend_many {c p f : Nat} (hp1 : 1 ≤ p) (hp : p ≤ 254) (hf : f ≤ 254) (word : List UInt8) (hw1 : p < word.length) (hw2 : word.length ≤ 255) (L : List Int) (h : areS L word.length = true) (h2 : p < L.length) (vw vl : Value) (w : World) (hc : CdAt w c p f) (hvw : SlAt w vw word) (hvl : IlAt w vl L) :
    Calls Try.prog 47 #[.pointer (some ⟨c, 0, none⟩), vw, vl] w fun e w' => e = .returned (.tuple #[.slice none 0 0, .slice none 0 0, .int .i64 110]) ∧ Below w.heap.size w w' := by
  have hL := are_len h
  have HS := hidD (syndromes_ok hp hf word hw1 hw2 vw w hc hvw)
  have HAP : Hid (∀ w', Below w.heap.size w w' → Calls Try.prog 60 #[vl, .int .i64 word.length] w' fun e w2 => e = .returned (.bool true) ∧ Below w'.heap.size w' w2) := fun w' hb => by
    have := arePlaces_any L (by omega) word.length hw2 vl w' (hvl.next hb)
    rw [h] at this; exact this
  have HPO : Hid (∀ w', Below w.heap.size w w' → Calls Try.prog 62 #[vl, .int .i64 word.length] w' fun e w2 => ∃ v2, e = .returned v2 ∧ IlAt w2 v2 (powS L word.length) ∧ Below w'.heap.size w' w2) := fun w' hb => by
    have hpl : (powS L word.length).length = L.length := by simp [powS]
    refine (powersOf_any L (by omega) (fun k hk => ⟨(are_at h k hk).1, by have := (are_at h k hk).2.1; omega⟩) word.length hw2 vl w' (hvl.next hb)).mono ?_
    rintro e w2 ⟨rfl, hr, hb2⟩
    have hil := hr.il (by omega)
    rw [hpl] at hil
    exact ⟨_, rfl, hil, hb2⟩
  have HCD := hidD hc
  have HLO : Hid (∀ w' vs v4, Below w.heap.size w w' → IlAt w' v4 (powS L word.length) → Calls Try.prog 61 #[.pointer (some ⟨c, 0, none⟩), vs, v4] w' fun e w2 => e = .returned (.tuple #[.slice none 0 0, .bool false]) ∧ Below w'.heap.size w' w2) := fun w' vs v4 hb hi =>
    locate_many hp (powS L word.length) (by simp [powS]; exact h2) vs v4 w' (HCD.out.next hb) hi
  obtain ⟨⟨aw, cw, rfl, hcw1, hcw2⟩, _⟩ := hvw
  clear hc hvl
  generalize hnn : word.length = n at *
  go_enter Try.func47, Try.ntmps47
  go_wp2_with fail
  refine wp_scope_jumps 0 (EndM (.pointer (some ⟨c, 0, none⟩)) (.slice aw n cw) vl (fun _ _ e8 w' => e8 = 110 ∧ Below w.heap.size w w')) (fun _ _ => 0) rfl ?_ ?_
  · go_wp2_with (first
      | (go_at_call 14; refine HS.out.mono ?_; rintro e w2 ⟨g2, rfl, hg2, hr2, hb2⟩; have HB2 := hidD hb2; have HR2 := hidD hr2; clear hb2 hr2)
      | (go_at_call 60; refine (HAP.out _ HB2.out).mono ?_; rintro e w3 ⟨rfl, hb3⟩; have HB3 := hidD (Below.next HB2.out hb3); clear hb3)
      | (go_at_call 62; refine (HPO.out _ HB3.out).mono ?_; rintro e w4 ⟨v4, rfl, hi4, hb4⟩; have HI4 := hidD hi4; have HB4 := hidD (Below.next HB3.out hb4); clear hb4 hi4)
      | (go_at_call 61; refine (HLO.out _ _ _ HB4.out HI4.out).mono ?_; rintro e w5 ⟨rfl, hb5⟩; have HB5 := hidD (Below.next HB4.out hb5); clear hb5))
    go_step3
    refine ⟨rfl, ?_⟩
    (repeat apply Exists.intro)
    exact ⟨rfl, rfl, HB5.out⟩
  · rintro a' w' ⟨m6, l7, e8, u9, u10, u11, u12, u13, u14, u15, u16, u17, u18, u19, u20, u21, u22, u23, u24, u25, u26, u27, u28, u29, u30, u31, u32, u33, u34, u35, u36, u37, u38, u39, u40, u41, u42, u43, u44, u45, u46, u47, u48, u49, u50, u51, u52, u53, u54, u55, u56, u57, u58, u59, u60, u61, rfl, rfl, hb⟩
    have HB := hidD hb
    clear hb
    go_wp2_with fail
    refine jump_ret ?_
    refine bodyPost_ret (v := .tuple #[.slice none 0 0, .slice none 0 0, .int .i64 110]) (by simp [results, Try.results47, go_sem]) rfl ?_
    exact ⟨rfl, HB.out⟩

set_option maxRecDepth 100000 in
set_option maxHeartbeats 3200000 in
theorem mend_zero {c p f : Nat} (hp1 : 1 ≤ p) (hp : p ≤ 254) (hf : f ≤ 254) (word : List UInt8) (hw1 : p < word.length) (hw2 : word.length ≤ 255) (L : List Int) (h : areS L word.length = true) (h2 : L.length ≤ p) (h3 : cf (othersS p (syns f p word) (powS L word.length)) 0 = 0) (vw vl : Value) (w : World) (hc : CdAt w c p f) (hvw : SlAt w vw word) (hvl : IlAt w vl L) :
    Calls Try.prog 47 #[.pointer (some ⟨c, 0, none⟩), vw, vl] w fun e w' => e = .returned (.tuple #[.slice none 0 0, .slice none 0 0, .int .i64 110]) ∧ Below w.heap.size w w' := by
  have hL := are_len h
  have HS := hidD (syndromes_ok hp hf word hw1 hw2 vw w hc hvw)
  have HAP : Hid (∀ w', Below w.heap.size w w' → Calls Try.prog 60 #[vl, .int .i64 word.length] w' fun e w2 => e = .returned (.bool true) ∧ Below w'.heap.size w' w2) := fun w' hb => by
    have := arePlaces_any L (by omega) word.length hw2 vl w' (hvl.next hb)
    rw [h] at this; exact this
  have HPO : Hid (∀ w', Below w.heap.size w w' → Calls Try.prog 62 #[vl, .int .i64 word.length] w' fun e w2 => ∃ v2, e = .returned v2 ∧ IlAt w2 v2 (powS L word.length) ∧ Below w'.heap.size w' w2) := fun w' hb => by
    have hpl : (powS L word.length).length = L.length := by simp [powS]
    refine (powersOf_any L (by omega) (fun k hk => ⟨(are_at h k hk).1, by have := (are_at h k hk).2.1; omega⟩) word.length hw2 vl w' (hvl.next hb)).mono ?_
    rintro e w2 ⟨rfl, hr, hb2⟩
    have hil := hr.il (by omega)
    rw [hpl] at hil
    exact ⟨_, rfl, hil, hb2⟩
  have HCD := hidD hc
  have HSY : Hid ((syns f p word).length = p) := by show _ = _; simp [syns]
  have HLO : Hid (∀ w' vs v4, Below w.heap.size w w' → SlAt w' vs (syns f p word) → IlAt w' v4 (powS L word.length) → Calls Try.prog 61 #[.pointer (some ⟨c, 0, none⟩), vs, v4] w' fun e w2 => ∃ v5, e = .returned (.tuple #[v5, .bool false]) ∧ Below w'.heap.size w' w2) := fun w' vs v4 hb hs hi => by
    refine (locate_few hp1 hp (syns f p word) (by simp [syns]; omega) (powS L word.length) (by simp [powS]; exact h2) vs v4 w' (HCD.out.next hb) hs hi).mono ?_
    rintro e w2 ⟨v5, rfl, _, hb2⟩
    rw [h3]
    exact ⟨v5, rfl, hb2⟩
  obtain ⟨⟨aw, cw, rfl, hcw1, hcw2⟩, _⟩ := hvw
  clear hc hvl
  generalize hnn : word.length = n at *
  go_enter Try.func47, Try.ntmps47
  go_wp2_with fail
  refine wp_scope_jumps 0 (EndM (.pointer (some ⟨c, 0, none⟩)) (.slice aw n cw) vl (fun _ _ e8 w' => e8 = 110 ∧ Below w.heap.size w w')) (fun _ _ => 0) rfl ?_ ?_
  · go_wp2_with (first
      | (go_at_call 14; refine HS.out.mono ?_; rintro e w2 ⟨g2, rfl, hg2, hr2, hb2⟩; have HB2 := hidD hb2; have HR2 := hidD hr2; clear hb2 hr2)
      | (go_at_call 60; refine (HAP.out _ HB2.out).mono ?_; rintro e w3 ⟨rfl, hb3⟩; have HB3 := hidD (Below.next HB2.out hb3); have HB23 := hidD hb3; clear hb3)
      | (go_at_call 62; refine (HPO.out _ HB3.out).mono ?_; rintro e w4 ⟨v4, rfl, hi4, hb4⟩; have HI4 := hidD hi4; have HB4 := hidD (Below.next HB3.out hb4); have HB24 := hidD (Below.next HB23.out hb4); clear hb4 hi4)
      | (go_at_call 61; refine (HLO.out _ _ _ HB4.out ((SlAt.row HR2.out HSY.out.symm (by omega)).next HB24.out) HI4.out).mono ?_; rintro e w5 ⟨v5, rfl, hb5⟩; have HB5 := hidD (Below.next HB4.out hb5); clear hb5))
    go_step3
    refine ⟨rfl, ?_⟩
    (repeat apply Exists.intro)
    exact ⟨rfl, rfl, HB5.out⟩
  · rintro a' w' ⟨m6, l7, e8, u9, u10, u11, u12, u13, u14, u15, u16, u17, u18, u19, u20, u21, u22, u23, u24, u25, u26, u27, u28, u29, u30, u31, u32, u33, u34, u35, u36, u37, u38, u39, u40, u41, u42, u43, u44, u45, u46, u47, u48, u49, u50, u51, u52, u53, u54, u55, u56, u57, u58, u59, u60, u61, rfl, rfl, hb⟩
    have HB := hidD hb
    clear hb
    go_wp2_with fail
    refine jump_ret ?_
    refine bodyPost_ret (v := .tuple #[.slice none 0 0, .slice none 0 0, .int .i64 110]) (by simp [results, Try.results47, go_sem]) rfl ?_
    exact ⟨rfl, HB.out⟩
end Go.Proofs.Ytdpkeffkpecmjaa
