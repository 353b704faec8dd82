/- What mend answers: the decoder's steps. -/
import Derived.Test.YtdpkeffkpecmjabRsm
namespace Go.Proofs.Ytdpkeffkpecmjab
open Go.RowKit
set_option linter.unusedVariables false

/-- The locator that the decoder finds. -/
def dLoc (f p : Nat) (word : List UInt8) (L : List Int) : List UInt8 := locS p (syns f p word) (powS L word.length)
/-- The places that it finds. -/
def dPl (f p : Nat) (word : List UInt8) (L : List Int) : List Int := placesTo (dLoc f p word L) word.length word.length
/-- The word that it makes. -/
def dWord (f p : Nat) (word : List UInt8) (L : List Int) : List UInt8 := amTo f p word (syns f p word) (dLoc f p word L) (dPl f p word L) (dPl f p word L).length
theorem places_in (loc : List UInt8) (n : Nat) : ∀ k i, i < (placesTo loc n k).length → 0 ≤ (placesTo loc n k).getD i 0 ∧ (placesTo loc n k).getD i 0 < k
  | 0, i, h => by simp [placesTo] at h
  | k + 1, i, h => by
    rw [placesTo] at h ⊢
    split at h
    · rename_i h0
      rw [if_pos h0]
      by_cases hi : i < (placesTo loc n k).length
      · have := places_in loc n k i hi
        rw [List.getD_eq_getElem?_getD, List.getElem?_append_left hi, ← List.getD_eq_getElem?_getD]
        omega
      · simp at h
        have he : i = (placesTo loc n k).length := by omega
        rw [List.getD_eq_getElem?_getD, he, List.getElem?_append_right (Nat.le_refl _)]
        simp
        omega
    · rename_i h0
      rw [if_neg h0]
      have := places_in loc n k i h
      omega
theorem dLoc_len (f p : Nat) (hp : p ≤ 254) (word : List UInt8) (L : List Int) (hL : L.length ≤ 255) : (dLoc f p word L).length ≤ 1000000 := by
  have h1 := mul_len 29 (ofTo (powS L word.length) (powS L word.length).length) (mulS 29 (othersS p (syns f p word) (powS L word.length)) [inv 29 (cf (othersS p (syns f p word) (powS L word.length)) 0)])
  have h2 := mul_len 29 (othersS p (syns f p word) (powS L word.length)) [inv 29 (cf (othersS p (syns f p word) (powS L word.length)) 0)]
  have h3 := others_len p hp (syns f p word) (powS L word.length)
  have h4 := ofTo_len (powS L word.length) (powS L word.length).length
  have h5 : (powS L word.length).length = L.length := by simp [powS]
  simp only [List.length_cons, List.length_nil] at h2
  unfold dLoc locS
  omega

set_option maxRecDepth 100000 in
set_option maxHeartbeats 3200000 in
theorem mend_places {c p f : Nat} (hp1 : 1 ≤ p) (hp : p ≤ 254) (hf : f ≤ 254) (word : List UInt8) (hw1 : p < word.length) (hw2 : word.length ≤ 255) (L : List Int) (hL : L.length ≤ 9223372036854775806) (h : areS L word.length = false) (vw vl : Value) (w : World) (hc : CdAt w c p f) (hvw : SlAt w vw word) (hvl : IlAt w vl L) :
    Calls Try.prog 31 #[.pointer (some ⟨c, 0, none⟩), vw, vl] w fun e w' => e = .returned (.tuple #[.slice none 0 0, .slice none 0 0, .int .i64 1]) ∧ Below w.heap.size w w' := by
  have HS := hidD (syndromes_ok hp hf word hw1 hw2 vw w hc hvw)
  have HAP : Hid (∀ w', Below w.heap.size w w' → Calls Try.prog 37 #[vl, .int .i64 word.length] w' fun e w2 => e = .returned (.bool false) ∧ Below w'.heap.size w' w2) := fun w' hb => by
    have := arePlaces_any L hL word.length hw2 vl w' (hvl.next hb)
    rw [h] at this; exact this
  obtain ⟨⟨aw, cw, rfl, hcw1, hcw2⟩, _⟩ := hvw
  clear hc hvl
  generalize word.length = n at *
  go_enter Try.func31, Try.ntmps31
  go_wp2_with fail
  refine wp_scope_jumps 0 (EndM (.pointer (some ⟨c, 0, none⟩)) (.slice aw n cw) vl (fun _ _ e8 w' => e8 = 1 ∧ Below w.heap.size w w')) (fun _ _ => 0) rfl ?_ ?_
  · go_wp2_with (first
      | (go_at_call 16; refine HS.out.mono ?_; rintro e w2 ⟨g2, rfl, hg2, hr2, hb2⟩; have HB2 := hidD hb2; have HR2 := hidD hr2; clear hb2 hr2)
      | (go_at_call 37; refine (HAP.out _ HB2.out).mono ?_; rintro e w3 ⟨rfl, hb3⟩; have HB3 := hidD (Below.next HB2.out hb3); clear hb3))
    go_step3
    refine ⟨rfl, ?_⟩
    (repeat apply Exists.intro)
    exact ⟨rfl, rfl, HB3.out⟩
  · rintro a' w' ⟨m6, l7, e8, u9, u10, u11, u12, u13, u14, u15, u16, u17, u18, u19, u20, u21, u22, u23, u24, u25, u26, u27, u28, u29, u30, u31, u32, u33, u34, u35, u36, u37, u38, u39, u40, u41, u42, u43, u44, u45, u46, u47, u48, u49, u50, u51, u52, u53, u54, u55, u56, u57, u58, u59, u60, u61, rfl, rfl, hb⟩
    have HB := hidD hb
    clear hb
    go_wp2_with fail
    refine jump_ret ?_
    refine bodyPost_ret (v := .tuple #[.slice none 0 0, .slice none 0 0, .int .i64 1]) (by simp [results, Try.results31, go_sem]) rfl ?_
    exact ⟨rfl, HB.out⟩
end Go.Proofs.Ytdpkeffkpecmjab
