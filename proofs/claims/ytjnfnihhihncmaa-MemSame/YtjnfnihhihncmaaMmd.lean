/- Plain: what a decoder tells of a cell, cells that are turned; one cell laid anew. -/
import Derived.Test.YtjnfnihhihncmaaMmc
import Derived.Deep.MidRow
namespace Go.Proofs.Ytjnfnihhihncmaa
open Go.RowKit
set_option linter.unusedVariables false

theorem wid8 : Wid 8 4 := Or.inl ⟨rfl, rfl⟩
theorem turD_back (W D a : Nat) (h : a < W) : turD W D a ^^^ 2 ^ a = D := by
  unfold turD; rw [if_pos h, Nat.xor_assoc, Nat.xor_self, Nat.xor_zero]
theorem turD_same (W D a : Nat) (h : ¬ a < W) : turD W D a = D := by unfold turD; rw [if_neg h]
theorem xor_ne {a b : Nat} (h : a ≠ b) : a ^^^ b ≠ 0 := fun e => h (by
  have : a ^^^ b ^^^ b = b := by rw [e, Nat.zero_xor]
  rw [Nat.xor_assoc, Nat.xor_self, Nat.xor_zero] at this; exact this)
/- one bit of a word is turned -/
theorem dec_one {W r : Nat} (h : Wid W r) (D a : Nat) (ha : a ≤ W + r) : DecIs W r (turD W D a) (turC W (encS W r D) a) D (if a < W then 1 else 2) (if a < W then a else a - W) 0 := by
  have hs := tur_syn h D (encS W r D) a (enc_lt h D) ha
  rw [enc_syn h, Nat.zero_xor] at hs
  have hp := tur_par h D (encS W r D) a ha
  rw [enc_par h] at hp
  by_cases hW : a < W
  · rw [if_pos hW, if_pos hW]
    have := DecIs.data (W := W) (r := r) (D := turD W D a) (C := turC W (encS W r D) a) a hW hs.symm hp
    rw [turD_back W D a hW] at this; exact this
  · rw [if_neg hW, if_neg hW]
    have := DecIs.check (W := W) (r := r) (D := turD W D a) (C := turC W (encS W r D) a) a (by omega) ha hs.symm hp
    rw [turD_same W D a hW] at this ⊢; exact this
/- two bits are turned -/
theorem dec_two {W r : Nat} (h : Wid W r) (D a b : Nat) (hd : D < 2 ^ W) (ha : a ≤ W + r) (hb : b ≤ W + r) (hab : a ≠ b) : DecIs W r (turD W (turD W D a) b) (turC W (turC W (encS W r D) a) b) 0 0 0 100 := by
  have hl := tur_lt h D (encS W r D) a hd (enc_lt h D) ha
  have hs := tur_syn h D (encS W r D) a (enc_lt h D) ha
  rw [enc_syn h, Nat.zero_xor] at hs
  have hp := tur_par h D (encS W r D) a ha
  rw [enc_par h] at hp
  have hs2 := tur_syn h (turD W D a) (turC W (encS W r D) a) b hl.2 hb
  have hp2 := tur_par h (turD W D a) (turC W (encS W r D) a) b hb
  rw [hs] at hs2
  rw [hp] at hp2
  refine DecIs.two ?_ hp2
  rw [hs2]
  exact xor_ne fun e => hab ((pat_ok h).1 a ha b hb e)
theorem dec_fine {W r : Nat} (h : Wid W r) (D : Nat) : DecIs W r D (encS W r D) D 0 0 0 := DecIs.fine (enc_syn h D) (enc_par h D)
theorem dec_cases {W r D C d k i e : Nat} (h : DecIs W r D C d k i e) :
    (synS W r D C = 0 ∧ parS D C = 0 ∧ d = D ∧ k = 0 ∧ i = 0 ∧ e = 0) ∨ (synS W r D C ≠ 0 ∧ parS D C = 0 ∧ d = 0 ∧ k = 0 ∧ i = 0 ∧ e = 100) ∨
    (∃ A, A < W ∧ patS W r A = synS W r D C ∧ parS D C = 1 ∧ d = D ^^^ 2 ^ A ∧ k = 1 ∧ i = A ∧ e = 0) ∨
    (∃ A, W ≤ A ∧ A ≤ W + r ∧ patS W r A = synS W r D C ∧ parS D C = 1 ∧ d = D ∧ k = 2 ∧ i = A - W ∧ e = 0) ∨
    ((∀ A, A ≤ W + r → patS W r A ≠ synS W r D C) ∧ parS D C = 1 ∧ d = 0 ∧ k = 0 ∧ i = 0 ∧ e = 100) := by
  cases h with
  | fine a b => exact .inl ⟨a, b, rfl, rfl, rfl, rfl⟩
  | two a b => exact .inr (.inl ⟨a, b, rfl, rfl, rfl, rfl⟩)
  | data _ a b c => exact .inr (.inr (.inl ⟨_, a, b, c, rfl, rfl, rfl, rfl⟩))
  | check _ a b c d => exact .inr (.inr (.inr (.inl ⟨_, a, b, c, d, rfl, rfl, rfl, rfl⟩)))
  | lost a b => exact .inr (.inr (.inr (.inr ⟨a, b, rfl, rfl, rfl, rfl⟩)))
theorem dec_uniq {W r : Nat} (hw : Wid W r) {D C d k i e d2 k2 i2 e2 : Nat} (h1 : DecIs W r D C d k i e) (h2 : DecIs W r D C d2 k2 i2 e2) : d = d2 ∧ k = k2 ∧ i = i2 ∧ e = e2 := by
  have hp := (pat_ok hw).1
  have c1 := dec_cases h1
  have c2 := dec_cases h2
  clear h1 h2
  rcases c1 with ⟨a, b, rfl, rfl, rfl, rfl⟩ | ⟨a, b, rfl, rfl, rfl, rfl⟩ | ⟨A, a, b, c, rfl, rfl, h3, rfl⟩ | ⟨A, a0, a, b, c, rfl, rfl, h3, rfl⟩ | ⟨a, b, rfl, rfl, rfl, rfl⟩ <;>
  rcases c2 with ⟨a2, b2, rfl, rfl, rfl, rfl⟩ | ⟨a2, b2, rfl, rfl, rfl, rfl⟩ | ⟨B, a2, b2, c2, rfl, rfl, h4, rfl⟩ | ⟨B, a20, a2, b2, c2, rfl, rfl, h4, rfl⟩ | ⟨a2, b2, rfl, rfl, rfl, rfl⟩ <;>
  first
    | exact ⟨rfl, rfl, rfl, rfl⟩
    | exact absurd a a2
    | exact absurd a2 a
    | omega
    | (have hA := hp A (by omega) B (by omega) (b.trans b2.symm); subst hA; first | exact ⟨rfl, rfl, h3.trans h4.symm, rfl⟩ | omega)
    | exact absurd b (a2 A (by omega))
    | exact absurd b2 (a B (by omega))

/- what is told of a cell: data, kind, bit, error -/
noncomputable def decS (z : Nat × Nat) : Nat × Nat × Nat × Nat :=
  (Classical.choose (dec_some 8 4 z.1 z.2), Classical.choose (Classical.choose_spec (dec_some 8 4 z.1 z.2)), Classical.choose (Classical.choose_spec (Classical.choose_spec (dec_some 8 4 z.1 z.2))), Classical.choose (Classical.choose_spec (Classical.choose_spec (Classical.choose_spec (dec_some 8 4 z.1 z.2)))))
theorem dec_is (z : Nat × Nat) : DecIs 8 4 z.1 z.2 (decS z).1 (decS z).2.1 (decS z).2.2.1 (decS z).2.2.2 :=
  Classical.choose_spec (Classical.choose_spec (Classical.choose_spec (Classical.choose_spec (dec_some 8 4 z.1 z.2))))
theorem dec_eq {z : Nat × Nat} {d k i e : Nat} (h : DecIs 8 4 z.1 z.2 d k i e) : decS z = (d, k, i, e) := by
  obtain ⟨h1, h2, h3, h4⟩ := dec_uniq wid8 (dec_is z) h
  rw [← h1, ← h2, ← h3, ← h4]
theorem dec_err (z : Nat × Nat) : (decS z).2.2.2 = 0 ∨ ((decS z).2.2.2 = 100 ∧ (decS z).1 = 0) := by
  rcases dec_cases (dec_is z) with ⟨_, _, _, _, _, h⟩ | ⟨_, _, h0, _, _, h⟩ | ⟨_, _, _, _, _, _, _, h⟩ | ⟨_, _, _, _, _, _, _, _, h⟩ | ⟨_, _, h0, _, _, h⟩
  · exact .inl h
  · exact .inr ⟨h, h0⟩
  · exact .inl h
  · exact .inl h
  · exact .inr ⟨h, h0⟩
theorem dec_lt {z : Nat × Nat} (hz : z.1 < 256) : (decS z).1 < 256 := by
  rcases dec_cases (dec_is z) with ⟨_, _, h, _⟩ | ⟨_, _, h, _⟩ | ⟨A, hA, _, _, h, _⟩ | ⟨_, _, _, _, _, h, _⟩ | ⟨_, _, h, _⟩ <;> rw [h]
  · exact hz
  · decide
  · exact Nat.xor_lt_two_pow (n := 8) hz (Nat.pow_lt_pow_right (by decide) hA)
  · exact hz
  · decide
/- a fresh cell of a byte; a cell with a bit turned -/
def encZ (b : Nat) : Nat × Nat := (b, encS 8 4 b)
def turZ (z : Nat × Nat) (a : Nat) : Nat × Nat := (turD 8 z.1 a, turC 8 z.2 a)
theorem encZ_lt {b : Nat} (h : b < 256) : (encZ b).1 < 256 ∧ (encZ b).2 < 32 := ⟨h, enc_lt wid8 b⟩
theorem turZ_lt {z : Nat × Nat} (h : z.1 < 256 ∧ z.2 < 32) {a : Nat} (ha : a < 13) : (turZ z a).1 < 256 ∧ (turZ z a).2 < 32 := tur_lt wid8 z.1 z.2 a h.1 h.2 (by omega)
theorem dec_enc (b : Nat) : decS (encZ b) = (b, 0, 0, 0) := dec_eq (dec_fine wid8 b)
theorem dec_tur (b a : Nat) (ha : a < 13) : decS (turZ (encZ b) a) = (b, if a < 8 then 1 else 2, if a < 8 then a else a - 8, 0) := dec_eq (dec_one wid8 b a (by omega))
theorem dec_tur2 (b a c : Nat) (hb : b < 256) (ha : a < 13) (hc : c < 13) (hac : a ≠ c) : decS (turZ (turZ (encZ b) a) c) = (0, 0, 0, 100) := dec_eq (dec_two wid8 b a c hb (by omega) (by omega) hac)
theorem turZ_back (z : Nat × Nat) (a : Nat) : turZ (turZ z a) a = z := by
  obtain ⟨D, C⟩ := z
  unfold turZ turD turC
  by_cases h : a < 8 <;> simp [h, Nat.xor_assoc]
/- one cell laid anew -/
def upd (Z : Nat → Nat × Nat) (a : Nat) (v : Nat × Nat) : Nat → Nat × Nat := fun i => if i = a then v else Z i
theorem upd_same (Z : Nat → Nat × Nat) (a : Nat) (v : Nat × Nat) : upd Z a v a = v := if_pos rfl
theorem upd_ne (Z : Nat → Nat × Nat) {a i : Nat} (v : Nat × Nat) (h : i ≠ a) : upd Z a v i = Z i := if_neg h
theorem upd_upd (Z : Nat → Nat × Nat) (a : Nat) (u v : Nat × Nat) : upd (upd Z a u) a v = upd Z a v := funext fun i => by unfold upd; split <;> rfl
theorem CeAt.there {w : World} {c : Nat} {Z : Nat → Nat × Nat} (h : CeAt w c Z) {a : Nat} (ha : a < 65536) : w.there c (a * 2) 2 := by
  obtain ⟨cs, e, hs, hz⟩ := h
  intro j hj
  refine ⟨?_, frozen_of_row _ _ _ _ _ e⟩
  rw [cell_of_row _ _ _ _ _ _ e, Array.getElem?_eq_getElem (show a * 2 + j < cs.size by omega)]
  rfl
theorem block_setCells (b : Nat) : ∀ (vs : List Value) (o : Nat) (w : World) (i : Nat), i ≠ b → (w.setCells b o vs).heap[i]? = w.heap[i]?
  | [], _, _, _, _ => rfl
  | v :: r, o, w, i, h => by rw [World.setCells, block_setCells b r _ _ i h]; exact Below.heap_setCell _ _ _ _ h
theorem size_setCells (b : Nat) : ∀ (vs : List Value) (o : Nat) (w : World), (w.setCells b o vs).heap.size = w.heap.size
  | [], _, _ => rfl
  | v :: r, o, w => by rw [World.setCells, size_setCells b r]; simp [World.setCell]
theorem CeAt.put {w : World} {c : Nat} {Z : Nat → Nat × Nat} (h : CeAt w c Z) {a : Nat} (ha : a < 65536) (D C : Nat) (hD : D < 256) (hC : C < 32) : CeAt (w.setCells c (a * 2) [.int .u64 (D : Int), .int .u8 (C : Int)]) c (upd Z a (D, C)) := by
  obtain ⟨cs, e, hs, hz⟩ := h
  refine ⟨(cs.setIfInBounds (a * 2) (.int .u64 (D : Int))).setIfInBounds (a * 2 + 1) (.int .u8 (C : Int)), ?_, by simp [hs], fun i hi => ?_⟩
  · show ((w.setCell ⟨c, a * 2, none⟩ (.int .u64 (D : Int))).setCell ⟨c, a * 2 + 1, none⟩ (.int .u8 (C : Int))).heap[c]? = _
    exact heap_setCell_same _ _ _ _ _ _ (heap_setCell_same _ _ _ _ _ _ e)
  · by_cases hia : i = a
    · subst hia
      rw [upd_same]
      refine ⟨⟨?_, ?_⟩, hD, hC⟩
      · rw [Array.getElem?_setIfInBounds_ne (by omega), Array.getElem?_setIfInBounds_self_of_lt (by omega)]
      · rw [Array.getElem?_setIfInBounds_self_of_lt (by simp; omega)]
    · rw [upd_ne _ _ hia]
      refine ⟨⟨?_, ?_⟩, (hz i hi).2⟩
      · rw [Array.getElem?_setIfInBounds_ne (by omega), Array.getElem?_setIfInBounds_ne (by omega)]; exact (hz i hi).1.1
      · rw [Array.getElem?_setIfInBounds_ne (by omega), Array.getElem?_setIfInBounds_ne (by omega)]; exact (hz i hi).1.2
theorem tape_setCells (b : Nat) : ∀ (vs : List Value) (o : Nat) (w : World), (w.setCells b o vs).os = w.os ∧ (w.setCells b o vs).tape = w.tape ∧ (w.setCells b o vs).output = w.output
  | [], _, _ => ⟨rfl, rfl, rfl⟩
  | v :: r, o, w => tape_setCells b r (o + 1) _
theorem Chg.put {S : Nat → Prop} {a b : World} (h : Chg S a b) (g : Nat) (hg : S g) (o : Nat) (vs : List Value) : Chg S a (b.setCells g o vs) := by
  obtain ⟨t1, t2, t3⟩ := tape_setCells g vs o b
  exact h.trans ⟨t1, t2, t3, Nat.le_of_eq (size_setCells _ _ _ _).symm, fun i hi hn => block_setCells g vs o b i fun e => hn (e ▸ hg)⟩
theorem MeAt.put {w : World} {k : Mk} {Z : Nat → Nat × Nat} {x y : Int} (h : MeAt w k Z x y) {a : Nat} (ha : a < 65536) (D C : Nat) (hD : D < 256) (hC : C < 32) : MeAt (w.setCells k.c (a * 2) [.int .u64 (D : Int), .int .u8 (C : Int)]) k (upd Z a (D, C)) x y :=
  ⟨(block_setCells _ _ _ _ _ h.ok.2.2.1).trans h.row, h.rg.keep (Nat.le_of_eq (size_setCells _ _ _ _).symm) (block_setCells _ _ _ _ _ h.ok.2.2.2.1), h.ce.put ha D C hD hC, h.ok⟩
theorem MeAt.putX {w : World} {k : Mk} {Z : Nat → Nat × Nat} {x y : Int} (h : MeAt w k Z x y) (x2 : Int) : MeAt (w.setCell ⟨k.m, 3, none⟩ (.int .i64 x2)) k Z x2 y := by
  refine ⟨(heap_setCell_same _ _ _ _ _ _ h.row).trans rfl, h.rg.keep (by simp [World.setCell]) (Below.heap_setCell _ _ _ _ fun e => h.ok.1 e.symm), ?_, h.ok⟩
  obtain ⟨cs, e, hs⟩ := h.ce
  exact ⟨cs, (Below.heap_setCell _ _ _ _ fun e => h.ok.2.2.1 e.symm).trans e, hs⟩
theorem MeAt.putY {w : World} {k : Mk} {Z : Nat → Nat × Nat} {x y : Int} (h : MeAt w k Z x y) (y2 : Int) : MeAt (w.setCell ⟨k.m, 4, none⟩ (.int .i64 y2)) k Z x y2 := by
  refine ⟨(heap_setCell_same _ _ _ _ _ _ h.row).trans rfl, h.rg.keep (by simp [World.setCell]) (Below.heap_setCell _ _ _ _ fun e => h.ok.1 e.symm), ?_, h.ok⟩
  obtain ⟨cs, e, hs⟩ := h.ce
  exact ⟨cs, (Below.heap_setCell _ _ _ _ fun e => h.ok.2.2.1 e.symm).trans e, hs⟩
end Go.Proofs.Ytjnfnihhihncmaa
