/- The characters of texts, in plain words. -/
import Derived.Test.YtmmlmpcalhfigabWid
namespace Go.Proofs.Ytmmlmpcalhfigab
open Go.RowKit
set_option linter.unusedVariables false

/-- Is there a byte at a place that goes on with a character? -/
def contS (l : List UInt8) (k : Nat) : Bool := decide (k < l.length) && (l.getD k 0).toNat / 64 == 2
/-- How many bytes the first character takes. -/
def stepS (l : List UInt8) : Nat :=
  if (l.getD 0 0).toNat < 0x80 then 1
  else if (l.getD 0 0).toNat / 32 == 6 && contS l 1 then
    if ((l.getD 0 0).toNat % 32) * 64 + (l.getD 1 0).toNat % 64 ≥ 0x80 then 2 else 1
  else if (l.getD 0 0).toNat / 16 == 14 && contS l 1 && contS l 2 then
    if ((l.getD 0 0).toNat % 16) * 4096 + ((l.getD 1 0).toNat % 64) * 64 + (l.getD 2 0).toNat % 64 ≥ 0x800 && Utf8.valid ((((l.getD 0 0).toNat % 16) * 4096 + ((l.getD 1 0).toNat % 64) * 64 + (l.getD 2 0).toNat % 64 : Nat) : Int) then 3 else 1
  else if (l.getD 0 0).toNat / 8 == 30 && contS l 1 && contS l 2 && contS l 3 then
    if ((l.getD 0 0).toNat % 8) * 262144 + ((l.getD 1 0).toNat % 64) * 4096 + ((l.getD 2 0).toNat % 64) * 64 + (l.getD 3 0).toNat % 64 ≥ 0x10000 && Utf8.valid ((((l.getD 0 0).toNat % 8) * 262144 + ((l.getD 1 0).toNat % 64) * 4096 + ((l.getD 2 0).toNat % 64) * 64 + (l.getD 3 0).toNat % 64 : Nat) : Int) then 4 else 1
  else 1
theorem get_drop (s : List UInt8) (i k : Nat) : (⟨s.toArray⟩ : ByteArray).get! (i + k) = (s.drop i).getD k 0 := by
  show s.toArray[i + k]! = _
  rw [List.getD, List.getElem?_drop]
  simp [getElem!_def]
  cases s[i + k]? <;> rfl
theorem decode_step (s : List UInt8) (i : Nat) : (Utf8.decode ⟨s.toArray⟩ i).2 = stepS (s.drop i) := by
  have h0 := get_drop s i 0
  have h1 := get_drop s i 1
  have h2 := get_drop s i 2
  have h3 := get_drop s i 3
  have hc : ∀ k, (decide (i + k < (⟨s.toArray⟩ : ByteArray).size) && ((⟨s.toArray⟩ : ByteArray).get! (i + k)).toNat / 64 == 2) = contS (s.drop i) k := fun k => by
    unfold contS
    rw [get_drop, List.length_drop]
    congr 1
    have : (⟨s.toArray⟩ : ByteArray).size = s.length := by simp [ByteArray.size]
    rw [this]
    simp only [decide_eq_decide]
    omega
  have c1 := hc 1
  have c2 := hc 2
  have c3 := hc 3
  unfold Utf8.decode stepS
  simp only [h0, h1, h2, h3] at c1 c2 c3 ⊢
  simp only [c1, c2, c3, apply_ite Prod.snd]
theorem stepS_pos (l : List UInt8) : 1 ≤ stepS l := by
  unfold stepS
  repeat' split
  all_goals omega
theorem contS_lt {l : List UInt8} {k : Nat} (h : contS l k = true) : k < l.length := by
  unfold contS at h
  simp at h
  exact h.1
theorem stepS_le {l : List UInt8} (h : l ≠ []) : stepS l ≤ l.length := by
  have hl : 0 < l.length := List.length_pos_iff.2 h
  unfold stepS
  split
  · omega
  · split
    · rename_i h1
      have := contS_lt (Bool.and_eq_true _ _ ▸ h1).2
      split <;> omega
    · split
      · rename_i h1
        have := contS_lt (Bool.and_eq_true _ _ ▸ h1).2
        split <;> omega
      · split
        · rename_i h1
          have := contS_lt (Bool.and_eq_true _ _ ▸ h1).2
          split <;> omega
        · omega
theorem contS_app_lt {l : List UInt8} {k : Nat} (h : k < l.length) (m : List UInt8) : contS (l ++ m) k = contS l k := by
  unfold contS
  rw [List.getD, List.getD, List.getElem?_append_left h, List.length_append]
  congr 1
  simp only [decide_eq_decide]
  omega
theorem getD_app_lt {l : List UInt8} {k : Nat} (h : k < l.length) (m : List UInt8) : (l ++ m).getD k 0 = l.getD k 0 := by
  rw [List.getD, List.getD, List.getElem?_append_left h]
theorem contS_ge {l : List UInt8} {k : Nat} (h : l.length ≤ k) : contS l k = false := by
  unfold contS
  rw [decide_eq_false (by omega)]
  rfl
theorem contS_at {l : List UInt8} {b : UInt8} (hb : b.toNat / 64 ≠ 2) (t : List UInt8) : contS (l ++ b :: t) l.length = false := by
  unfold contS
  rw [List.getD, List.getElem?_append_right (Nat.le_refl _)]
  simp [hb]
/-- A byte that goes on with no character ends the one ahead. -/
theorem stepS_app {l : List UInt8} (h : l ≠ []) {b : UInt8} (hb : b.toNat / 64 ≠ 2) (t : List UInt8) : stepS (l ++ b :: t) = stepS l := by
  have hl : 0 < l.length := List.length_pos_iff.2 h
  have g0 := getD_app_lt hl (b :: t)
  by_cases h1 : l.length = 1
  · have c := contS_at (l := l) hb t
    rw [h1] at c
    have c' : contS l 1 = false := contS_ge (by omega)
    unfold stepS
    simp only [g0, c, c', Bool.and_false, Bool.false_and]
    simp
  · have g1 := getD_app_lt (show 1 < l.length by omega) (b :: t)
    have c1 := contS_app_lt (show 1 < l.length by omega) (b :: t)
    by_cases h2 : l.length = 2
    · have c := contS_at (l := l) hb t
      rw [h2] at c
      have c' : contS l 2 = false := contS_ge (by omega)
      unfold stepS
      simp only [g0, g1, c1, c, c', Bool.and_false, Bool.false_and]
      simp
    · have g2 := getD_app_lt (show 2 < l.length by omega) (b :: t)
      have c2 := contS_app_lt (show 2 < l.length by omega) (b :: t)
      by_cases h3 : l.length = 3
      · have c := contS_at (l := l) hb t
        rw [h3] at c
        have c' : contS l 3 = false := contS_ge (by omega)
        unfold stepS
        simp only [g0, g1, g2, c1, c2, c, c', Bool.and_false]
        simp
      · have g3 := getD_app_lt (show 3 < l.length by omega) (b :: t)
        have c3 := contS_app_lt (show 3 < l.length by omega) (b :: t)
        unfold stepS
        simp only [g0, g1, g2, g3, c1, c2, c3]
/-- A text's characters. -/
def charsS (l : List UInt8) : List (List UInt8) := if h : l = [] then [] else l.take (stepS l) :: charsS (l.drop (stepS l))
termination_by l.length
decreasing_by
  have := stepS_pos l
  have := List.length_pos_iff.2 h
  rw [List.length_drop]
  omega
theorem charsS_nil : charsS [] = [] := by rw [charsS, dif_pos rfl]
theorem charsS_in {l : List UInt8} (h : l ≠ []) : charsS l = l.take (stepS l) :: charsS (l.drop (stepS l)) := by rw [charsS, dif_neg h]
theorem charsS_app {b : UInt8} (hb : b.toNat / 64 ≠ 2) (t : List UInt8) : ∀ (n : Nat) (l : List UInt8), l.length ≤ n → charsS (l ++ b :: t) = charsS l ++ charsS (b :: t)
  | 0, l, h => by
    have : l = [] := List.eq_nil_of_length_eq_zero (by omega)
    subst this
    rw [charsS_nil]; rfl
  | n + 1, l, h => by
    by_cases hl : l = []
    · subst hl; rw [charsS_nil]; rfl
    · have h1 := stepS_le hl
      have h2 := stepS_pos l
      have h3 := List.length_pos_iff.2 hl
      rw [charsS_in (show l ++ b :: t ≠ [] by simp), stepS_app hl hb t, charsS_in hl, List.take_append_of_le_length h1, List.drop_append_of_le_length h1, charsS_app hb t n _ (by rw [List.length_drop]; omega)]
      rfl
theorem charsS_blank (t : List UInt8) : charsS (32 :: t) = [32] :: charsS t := by
  have h : stepS (32 :: t) = 1 := by unfold stepS; simp
  rw [charsS_in (by simp), h]
  rfl
theorem charsS_blanks (t : List UInt8) : ∀ n, charsS (List.replicate n 32 ++ t) = List.replicate n [32] ++ charsS t
  | 0 => by simp
  | n + 1 => by
    rw [List.replicate_succ, List.cons_append, charsS_blank, charsS_blanks t n, List.replicate_succ, List.cons_append]
theorem charsS_text (x t : List UInt8) : charsS (x ++ 32 :: t) = charsS x ++ charsS (32 :: t) := charsS_app (by decide) t x.length x (Nat.le_refl _)
theorem charsS_pad (x t : List UInt8) (n : Nat) : charsS (x ++ List.replicate n 32 ++ 32 :: t) = charsS x ++ List.replicate n [32] ++ charsS (32 :: t) := by
  cases n with
  | zero => simp [charsS_text]
  | succ n =>
    rw [List.replicate_succ, List.append_assoc, List.cons_append, charsS_text, charsS_blank, charsS_blanks, List.append_assoc, List.replicate_succ, List.cons_append]
/-- A text is as wide as it has characters. -/
theorem wid_chars (s : List UInt8) : ∀ (n pos : Nat), s.length - pos ≤ n → widS ⟨s.toArray⟩ pos = (charsS (s.drop pos)).length
  | 0, pos, h => by
    have : ¬ pos < (⟨s.toArray⟩ : ByteArray).size := by simp [ByteArray.size]; omega
    rw [widS_end this, List.drop_eq_nil_of_le (by omega), charsS_nil]; rfl
  | n + 1, pos, h => by
    by_cases hp : pos < s.length
    · have hp' : pos < (⟨s.toArray⟩ : ByteArray).size := by simpa [ByteArray.size] using hp
      have hne : s.drop pos ≠ [] := fun e => by have := congrArg List.length e; simp at this; omega
      have h1 := stepS_pos (s.drop pos)
      rw [widS_in hp', decode_step, wid_chars s n _ (by omega), charsS_in hne, List.length_cons, List.drop_drop]
    · have : ¬ pos < (⟨s.toArray⟩ : ByteArray).size := by simpa [ByteArray.size] using hp
      rw [widS_end this, List.drop_eq_nil_of_le (by omega), charsS_nil]; rfl
end Go.Proofs.Ytmmlmpcalhfigab
