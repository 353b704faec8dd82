/- What Decode and Locator answer. -/
import Derived.Test.YtdpkeffkpecmjaaRsq
namespace Go.Proofs.Ytdpkeffkpecmjaa
open Go.RowKit
set_option linter.unusedVariables false

/-- The decoder's error; 0: there is none. -/
def mErr (f p : Nat) (word : List UInt8) (L : List Int) : Int :=
  if word.length ≤ p then 1 else if 255 < word.length then 3 else if areS L word.length = false then 1 else if p < L.length then 110
  else if cf (othersS p (syns f p word) (powS L word.length)) 0 = 0 then 110 else if ¬ (dPl f p word L).length + 1 = (dLoc f p word L).length then 110
  else if goodS f p (dWord f p word L) = false then 110 else 0
theorem mend_err {c p f : Nat} (hp1 : 1 ≤ p) (hp : p ≤ 254) (hf : f ≤ 254) (word : List UInt8) (L : List Int) (hL : L.length ≤ 9223372036854775806) (h : mErr f p word L ≠ 0) (vw vl : Value) (w : World) (hc : CdAt w c p f) (hvw : SlAt w vw word) (hvl : IlAt w vl L) :
    Calls Try.prog 47 #[.pointer (some ⟨c, 0, none⟩), vw, vl] w fun e w' => e = .returned (.tuple #[.slice none 0 0, .slice none 0 0, .int .i64 (mErr f p word L)]) ∧ Below w.heap.size w w' := by
  unfold mErr at h ⊢
  split
  · rename_i h1; exact mend_short word h1 vw vl w hc hvw
  rename_i h1
  rw [if_neg h1] at h
  split
  · rename_i h2; exact mend_long word (by omega) h2 vw vl w hc hvw
  rename_i h2
  rw [if_neg h2] at h
  split
  · rename_i h3; exact mend_places hp1 hp hf word (by omega) (by omega) L hL h3 vw vl w hc hvw hvl
  rename_i h3
  rw [if_neg h3] at h
  have h3' : areS L word.length = true := by simpa using h3
  split
  · rename_i h4; exact mend_many hp1 hp hf word (by omega) (by omega) L h3' h4 vw vl w hc hvw hvl
  rename_i h4
  rw [if_neg h4] at h
  split
  · rename_i h5; exact mend_zero hp1 hp hf word (by omega) (by omega) L h3' (by omega) h5 vw vl w hc hvw hvl
  rename_i h5
  rw [if_neg h5] at h
  split
  · rename_i h6; exact mend_unlike hp1 hp hf word (by omega) (by omega) L h3' (by omega) h5 h6 vw vl w hc hvw hvl
  rename_i h6
  rw [if_neg h6] at h
  split
  · rename_i h7; exact mend_bad hp1 hp hf word (by omega) (by omega) L h3' (by omega) h5 (Classical.not_not.1 h6) h7 vw vl w hc hvw hvl
  rename_i h7
  rw [if_neg h7] at h
  exact absurd rfl h
/-- What must hold where there is no error. -/
structure Fine (f p : Nat) (word : List UInt8) (L : List Int) : Prop where
  l1 : p < word.length
  l2 : word.length ≤ 255
  are : areS L word.length = true
  few : L.length ≤ p
  lead : cf (othersS p (syns f p word) (powS L word.length)) 0 ≠ 0
  deg : (dPl f p word L).length + 1 = (dLoc f p word L).length
  good : goodS f p (dWord f p word L) = true
theorem fine_iff (f p : Nat) (word : List UInt8) (L : List Int) : mErr f p word L = 0 ↔ Fine f p word L := by
  unfold mErr
  constructor
  · intro h
    split at h
    · exact absurd h (by omega)
    split at h
    · exact absurd h (by omega)
    split at h
    · exact absurd h (by omega)
    split at h
    · exact absurd h (by omega)
    split at h
    · exact absurd h (by omega)
    split at h
    · exact absurd h (by omega)
    split at h
    · exact absurd h (by omega)
    rename_i h1 h2 h3 h4 h5 h6 h7
    exact ⟨by omega, by omega, by simpa using h3, by omega, h5, Classical.not_not.1 h6, by simpa using h7⟩
  · rintro ⟨h1, h2, h3, h4, h5, h6, h7⟩
    rw [if_neg (by omega), if_neg (by omega), if_neg (by simp [h3]), if_neg (by omega), if_neg h5, if_neg (by simp [h6]), if_neg (by simp [h7])]
theorem mend_fine {c p f : Nat} (hp1 : 1 ≤ p) (hp : p ≤ 254) (hf : f ≤ 254) (word : List UInt8) (L : List Int) (h : Fine f p word L) (vw vl : Value) (w : World) (hc : CdAt w c p f) (hvw : SlAt w vw word) (hvl : IlAt w vl L) :
    Calls Try.prog 47 #[.pointer (some ⟨c, 0, none⟩), vw, vl] w fun e w' => ∃ g v, e = .returned (.tuple #[.slice (some ⟨g, 0, none⟩) word.length word.length, v, .int .i64 0]) ∧ w.heap.size ≤ g ∧ RowAt w' g (dWord f p word L) ∧ SlAt w' v (dLoc f p word L) ∧ Below w.heap.size w w' :=
  mend_ok hp1 hp hf word h.l1 h.l2 L h.are h.few h.lead h.deg h.good vw vl w hc hvw hvl

theorem merr_cases (f p : Nat) (word : List UInt8) (L : List Int) : mErr f p word L = 0 ∨ mErr f p word L = 1 ∨ mErr f p word L = 3 ∨ mErr f p word L = 110 := by
  unfold mErr; (repeat' split) <;> simp
set_option maxRecDepth 100000 in
set_option maxHeartbeats 800000 in
theorem locator_err {c p f : Nat} (hp1 : 1 ≤ p) (hp : p ≤ 254) (hf : f ≤ 254) (word : List UInt8) (L : List Int) (hL : L.length ≤ 9223372036854775806) (h : mErr f p word L ≠ 0) (vw vl : Value) (w : World) (hc : CdAt w c p f) (hvw : SlAt w vw word) (hvl : IlAt w vl L) :
    Calls Try.prog 23 #[.pointer (some ⟨c, 0, none⟩), vw, vl] w fun e w' => e = .returned (.tuple #[.slice none 0 0, .int .i64 (mErr f p word L)]) ∧ Below w.heap.size w w' := by
  have HS := hidD (mend_err hp1 hp hf word L hL h vw vl w hc hvw hvl)
  clear hc hvw hvl h
  generalize mErr f p word L = E at *
  go_enter Try.func23, Try.ntmps23
  go_wp2_with (go_at_call 47; refine HS.out.mono ?_; rintro e w2 ⟨rfl, hb2⟩; have HB2 := hidD hb2; clear hb2)
  refine bodyPost_ret (v := .tuple #[.slice none 0 0, .int .i64 E]) (by simp [results, Try.results23, go_sem]) rfl ?_
  exact ⟨rfl, HB2.out⟩
set_option maxRecDepth 100000 in
set_option maxHeartbeats 800000 in
theorem locator_ok {c p f : Nat} (hp1 : 1 ≤ p) (hp : p ≤ 254) (hf : f ≤ 254) (word : List UInt8) (L : List Int) (h : Fine f p word L) (vw vl : Value) (w : World) (hc : CdAt w c p f) (hvw : SlAt w vw word) (hvl : IlAt w vl L) :
    Calls Try.prog 23 #[.pointer (some ⟨c, 0, none⟩), vw, vl] w fun e w' => ∃ v, e = .returned (.tuple #[v, .int .i64 0]) ∧ SlAt w' v (dLoc f p word L) ∧ Below w.heap.size w w' := by
  have HS := hidD (mend_fine hp1 hp hf word L h vw vl w hc hvw hvl)
  clear hc hvw hvl h
  go_enter Try.func23, Try.ntmps23
  go_wp2_with (go_at_call 47; refine HS.out.mono ?_; rintro e w2 ⟨g, v, rfl, hg, hr, hv, hb2⟩; have HB2 := hidD hb2; have HV2 := hidD hv; clear hb2 hv hr hg)
  refine bodyPost_ret (v := .tuple #[v, .int .i64 0]) (by simp [results, Try.results23, go_sem]) rfl ?_
  exact ⟨v, rfl, HV2.out, HB2.out⟩
set_option maxRecDepth 100000 in
set_option maxHeartbeats 800000 in
theorem decode_err {c p f : Nat} (hp1 : 1 ≤ p) (hp : p ≤ 254) (hf : f ≤ 254) (word : List UInt8) (L : List Int) (hL : L.length ≤ 9223372036854775806) (h : mErr f p word L ≠ 0) (vw vl : Value) (w : World) (hc : CdAt w c p f) (hvw : SlAt w vw word) (hvl : IlAt w vl L) :
    Calls Try.prog 21 #[.pointer (some ⟨c, 0, none⟩), vw, vl] w fun e w' => e = .returned (.tuple #[.slice none 0 0, .slice none 0 0, .int .i64 (mErr f p word L)]) ∧ Below w.heap.size w w' := by
  have HS := hidD (mend_err hp1 hp hf word L hL h vw vl w hc hvw hvl)
  have hb : (mErr f p word L == 0) = false := beq_eq_false_iff_ne.2 h
  clear hc hvw hvl
  generalize mErr f p word L = E at *
  go_enter Try.func21, Try.ntmps21
  go_wp2_with (go_at_call 47; refine HS.out.mono ?_; rintro e w2 ⟨rfl, hb2⟩; have HB2 := hidD hb2; clear hb2)
  refine bodyPost_ret (v := .tuple #[.slice none 0 0, .slice none 0 0, .int .i64 E]) (by simp [results, Try.results21, go_sem]) rfl ?_
  exact ⟨rfl, HB2.out⟩

/-- The places among the first k at which two words differ. -/
def difTo (A B : List UInt8) : Nat → List Int
  | 0 => []
  | k + 1 => if cf A k = cf B k then difTo A B k else difTo A B k ++ [(k : Int)]
theorem dif_len (A B : List UInt8) : ∀ k, (difTo A B k).length ≤ k
  | 0 => by simp [difTo]
  | k + 1 => by
    have := dif_len A B k
    rw [difTo]; split
    · omega
    · simp; omega
end Go.Proofs.Ytdpkeffkpecmjaa
