/- RsEncodes, whole. -/
import Derived.Test.YtdpkeffkpecmjaaRyd
namespace Go.Proofs.Ytdpkeffkpecmjaa
open Go.RowKit
set_option linter.unusedVariables false

/-- What Encode answers: the bytes, the error. -/
def eL (f p : Nat) (data : List UInt8) : List UInt8 := if data.length = 0 then [] else if 255 < data.length + p then [] else encS f p data
def eE (p : Nat) (data : List UInt8) : Int := if data.length = 0 then 1 else if 255 < data.length + p then 3 else 0
def sL (f p : Nat) (word : List UInt8) : List UInt8 := if fauE p word.length = 0 then syns f p word else []
/-- Both codes lie in memory. -/
def Two (p f : Nat) (pc pr : Option Addr) (w : World) : Prop := ∃ c r, pc = some ⟨c, 0, none⟩ ∧ pr = some ⟨r, 0, none⟩ ∧ CdAt w c p f ∧ RkAt w r p f
theorem Two.next {p f : Nat} (pc pr : Option Addr) (w w' : World) (h : Two p f pc pr w) (hb : Below w.heap.size w w') : Two p f pc pr w' := by
  obtain ⟨c, r, h1, h2, h3, h4⟩ := h
  exact ⟨c, r, h1, h2, h3.next hb, h4.next hb⟩
theorem fau_cases (p n : Nat) : (n ≤ p ∧ fauE p n = 1) ∨ (p < n ∧ 255 < n ∧ fauE p n = 3) ∨ (p < n ∧ n ≤ 255 ∧ fauE p n = 0) := by
  unfold fauE
  by_cases h1 : n ≤ p
  · exact .inl ⟨h1, if_pos h1⟩
  · by_cases h2 : 255 < n
    · exact .inr (.inl ⟨by omega, h2, by rw [if_neg h1, if_pos h2]⟩)
    · exact .inr (.inr ⟨by omega, by omega, by rw [if_neg h1, if_neg h2]⟩)
theorem rsEncodes_in (p f : Nat) (h1 : 1 ≤ p) (h2 : p ≤ 254) (h3 : f ≤ 254) (data word : List UInt8) (hdl : data.length ≤ 140737488355200) (hwl : word.length ≤ 140737488355200) (vd vw : Value) (w : World) (hvd : SlAt w vd data) (hvw : SlAt w vw word) : Calls Try.prog 3 #[.int .i64 p, .int .i64 f, vd, vw] w fun e w' => e = .returned (.bool true) ∧ Below w.heap.size w w' := by
  refine encodes_of (Two p f) Two.next p f data word (eL f p data) (sL f p word) (genTo f p) (eE p data) (fauE p word.length) (goodS f p word) hdl hwl ?_ ?_ ?_ ?_ ?_ ?_ ?_ ?_ ?_ vd vw w hvd hvw
  · intro w
    exact (both_ok p f h1 h2 h3 w).mono fun e w' ⟨c, r, h1, h2, h3, h4⟩ => ⟨_, _, h1, ⟨c, r, rfl, rfl, h2, h3⟩, h4⟩
  · rintro pc pr w v ⟨c, r, rfl, rfl, hc, hr⟩ hs
    show Calls Try.prog 12 #[.pointer (some ⟨c, 0, none⟩), v] w _
    unfold eL eE
    by_cases h0 : data.length = 0
    · rw [if_pos h0, if_pos h0]
      rw [List.length_eq_zero_iff.1 h0] at hs
      exact (encode_none v w hs).mono fun e w' ⟨a, b⟩ => ⟨none, 0, a, SlAt.nil _, b⟩
    · rw [if_neg h0, if_neg h0]
      by_cases hb : 255 < data.length + p
      · rw [if_pos hb, if_pos hb]
        exact (encode_big h2 data hb v w hc hs).mono fun e w' ⟨a, b⟩ => ⟨none, 0, a, SlAt.nil _, b⟩
      · rw [if_neg hb, if_neg hb]
        refine (encode_ok h2 data (by omega) (by omega) v w hc hs).mono fun e w' ⟨g, a, _, b, d⟩ => ⟨_, _, ?_, SlAt.row b rfl (by rw [encS_length]; omega), d⟩
        rw [a, encS_length]
  · rintro pc pr w v ⟨c, r, rfl, rfl, hc, hr⟩ hs
    show Calls Try.prog 13 #[.pointer (some ⟨r, 0, none⟩), v] w _
    unfold eL eE
    by_cases h0 : data.length = 0
    · rw [if_pos h0, if_pos h0]
      rw [List.length_eq_zero_iff.1 h0] at hs
      exact (rkEnc_none v w hs).mono fun e w' ⟨a, b⟩ => ⟨none, 0, a, SlAt.nil _, b⟩
    · rw [if_neg h0, if_neg h0]
      by_cases hb : 255 < data.length + p
      · rw [if_pos hb, if_pos hb]
        exact (rkEnc_big h2 data (by omega) hb v w hr hs).mono fun e w' ⟨a, b⟩ => ⟨none, 0, a, SlAt.nil _, b⟩
      · rw [if_neg hb, if_neg hb]
        refine (rkEnc_ok h2 h3 data (by omega) (by omega) v w hr hs).mono fun e w' ⟨a, k, h1, h2, h3⟩ => ⟨a, k, ?_, ?_, h3⟩
        · rw [h1, encS_length]
        · rw [encS_length]; exact h2
  · rintro pc pr w v ⟨c, r, rfl, rfl, hc, hr⟩ hs
    show Calls Try.prog 14 #[.pointer (some ⟨c, 0, none⟩), v] w _
    unfold sL
    rcases fau_cases p word.length with ⟨a1, a2⟩ | ⟨a1, a2, a3⟩ | ⟨a1, a2, a3⟩
    · rw [a2, if_neg (by decide)]
      exact (syndromes_short word a1 v w hc hs).mono fun e w' ⟨a, b⟩ => ⟨none, 0, a, SlAt.nil _, b⟩
    · rw [a3, if_neg (by decide)]
      exact (syndromes_long word a1 a2 v w hc hs).mono fun e w' ⟨a, b⟩ => ⟨none, 0, a, SlAt.nil _, b⟩
    · rw [a3, if_pos rfl]
      have hl : (syns f p word).length = p := by simp [syns]
      refine (syndromes_ok h2 h3 word a1 a2 v w hc hs).mono fun e w' ⟨g, a, _, b, d⟩ => ⟨some ⟨g, 0, none⟩, p, ?_, ?_, d⟩
      · rw [a, hl]
      · rw [hl]; exact SlAt.row b hl.symm (by omega)
  · rintro pc pr w v ⟨c, r, rfl, rfl, hc, hr⟩ hs
    show Calls Try.prog 15 #[.pointer (some ⟨r, 0, none⟩), v] w _
    unfold sL
    by_cases hE : fauE p word.length = 0
    · rcases fau_cases p word.length with ⟨a1, a2⟩ | ⟨a1, a2, a3⟩ | ⟨a1, a2, a3⟩
      · rw [hE] at a2; cases a2
      · rw [hE] at a3; cases a3
      · rw [if_pos hE, hE]
        have hl : (syns f p word).length = p := by simp [syns]
        refine (rkSyn_ok h2 h3 word a1 a2 v w hr hs).mono fun e w' ⟨a, k, b, d, g⟩ => ⟨a, k, ?_, ?_, g⟩
        · rw [b, hl]
        · rw [hl]; exact d
    · rw [if_neg hE]
      exact (rkSyn_err word hE v w hr hs).mono fun e w' ⟨a, b⟩ => ⟨none, 0, a, SlAt.nil _, b⟩
  · rintro pc pr w ⟨c, r, rfl, rfl, hc, hr⟩
    refine (generator_any h2 w hc).mono fun e w' ⟨a, b, d⟩ => ⟨some ⟨w.heap.size, 0, none⟩, p + 1, ?_, ?_, d⟩
    · rw [a, (gen_ok f p).1]
    · rw [(gen_ok f p).1]; exact SlAt.row b (gen_ok f p).1.symm (by omega)
  · rintro pc pr w ⟨c, r, rfl, rfl, hc, hr⟩
    refine (rkGen_any h2 h3 w hr).mono fun e w' ⟨v, a, b, d⟩ => ?_
    obtain ⟨a2, k2, hv, _, _⟩ := b.shape
    exact ⟨a2, k2, by rw [a, hv], by rw [← hv]; exact b, d⟩
  · rintro pc pr w v ⟨c, r, rfl, rfl, hc, hr⟩ hs
    exact good_any h2 h3 word v w hc hs
  · rintro pc pr w v ⟨c, r, rfl, rfl, hc, hr⟩ hs
    exact rkGood_any h2 h3 word v w hr hs
theorem rsEncodes_out (p f : Int) (h : ¬ (1 ≤ p ∧ p ≤ 254 ∧ 0 ≤ f ∧ f ≤ 254)) (data word : List UInt8) (hdl : data.length ≤ 140737488355200) (hwl : word.length ≤ 140737488355200) (vd vw : Value) (w : World) (hvd : SlAt w vd data) (hvw : SlAt w vw word) : Calls Try.prog 3 #[.int .i64 p, .int .i64 f, vd, vw] w fun e w' => e = .returned (.bool true) ∧ Below w.heap.size w w' := by
  refine encodes_of (fun pc pr _ => pc = none ∧ pr = none) (fun _ _ _ _ h _ => h) p f data word [] [] [] 2 2 false hdl hwl ?_ ?_ ?_ ?_ ?_ ?_ ?_ ?_ ?_ vd vw w hvd hvw
  · intro w
    exact (both_out p f h w).mono fun e w' ⟨a, b⟩ => ⟨none, none, a, ⟨rfl, rfl⟩, b⟩
  · rintro pc pr w v ⟨rfl, rfl⟩ hs
    exact (encode_nil v w).mono fun e w' ⟨a, b⟩ => ⟨none, 0, a, SlAt.nil _, b⟩
  · rintro pc pr w v ⟨rfl, rfl⟩ hs
    exact (rkEnc_nil v w).mono fun e w' ⟨a, b⟩ => ⟨none, 0, a, SlAt.nil _, b⟩
  · rintro pc pr w v ⟨rfl, rfl⟩ hs
    exact (syndromes_nil v w).mono fun e w' ⟨a, b⟩ => ⟨none, 0, a, SlAt.nil _, b⟩
  · rintro pc pr w v ⟨rfl, rfl⟩ hs
    exact (rkSyn_nil v w).mono fun e w' ⟨a, b⟩ => ⟨none, 0, a, SlAt.nil _, b⟩
  · rintro pc pr w ⟨rfl, rfl⟩
    exact (generator_nil w).mono fun e w' ⟨a, b⟩ => ⟨none, 0, a, SlAt.nil _, b⟩
  · rintro pc pr w ⟨rfl, rfl⟩
    exact (rkGen_nil w).mono fun e w' ⟨a, b⟩ => ⟨none, 0, a, SlAt.nil _, b⟩
  · rintro pc pr w v ⟨rfl, rfl⟩ hs
    exact good_nil v w
  · rintro pc pr w v ⟨rfl, rfl⟩ hs
    exact rkGood_nil v w
theorem rsEncodes_any (p f : Int) (data word : List UInt8) (hdl : data.length ≤ 140737488355200) (hwl : word.length ≤ 140737488355200) (vd vw : Value) (w : World) (hvd : SlAt w vd data) (hvw : SlAt w vw word) : Calls Try.prog 3 #[.int .i64 p, .int .i64 f, vd, vw] w fun e w' => e = .returned (.bool true) ∧ Below w.heap.size w w' := by
  by_cases h : 1 ≤ p ∧ p ≤ 254 ∧ 0 ≤ f ∧ f ≤ 254
  · obtain ⟨P, rfl⟩ : ∃ P : Nat, p = P := ⟨p.toNat, by omega⟩
    obtain ⟨F, rfl⟩ : ∃ F : Nat, f = F := ⟨f.toNat, by omega⟩
    exact rsEncodes_in P F (by omega) (by omega) (by omega) data word hdl hwl vd vw w hvd hvw
  · exact rsEncodes_out p f h data word hdl hwl vd vw w hvd hvw
end Go.Proofs.Ytdpkeffkpecmjaa
