/- Plain facts: what is shown is read again; the examples of the chapter that every statement asks for. -/
import Derived.Test.YtmmlmpcalhfigaaRead
import Derived.Test.YtmmlmpcalhfigaaMisc
namespace Go.Proofs.Ytmmlmpcalhfigaa
open Go
set_option linter.unusedVariables false

/-- The value of digits behind a value. -/
def valL (K : Nat) : Nat → List UInt8 → Nat
  | v, [] => v
  | v, c :: t => valL K (v * K + (digV c.toNat).toNat) t
theorem valL_ge {K : Nat} (hK : 1 ≤ K) : ∀ (t : List UInt8) (v : Nat), v ≤ valL K v t
  | [], v => Nat.le_refl _
  | c :: t, v => by
    have h1 := valL_ge hK t (v * K + (digV c.toNat).toNat)
    have h2 : v * 1 ≤ v * K := Nat.mul_le_mul_left v hK
    rw [valL]
    omega
theorem byteAt_at (p : List UInt8) (c : UInt8) (t : List UInt8) : byteAt (p ++ c :: t) p.length = c.toNat := by
  unfold byteAt; simp [List.getD]
theorem runS_all {K : Nat} (hK : 1 ≤ K) : ∀ (t p : List UInt8) (v : Nat), (∀ c ∈ t, ofB c.toNat K = true) → valL K v t ≤ 18446744073709551615 → runS K (p ++ t) ((p ++ t).length - p.length) p.length v = (some (valL K v t), (p ++ t).length)
  | [], p, v, _, _ => by
    rw [runS_stop (by simp)]
    simp [valL]
  | c :: t, p, v, ho, hv => by
    have hb := byteAt_at p c t
    have hl : p.length < (p ++ c :: t).length := by simp
    have hc := ho c List.mem_cons_self
    rw [valL] at hv
    have hge := valL_ge hK t (v * K + (digV c.toNat).toNat)
    rw [runS_step hl (by rw [hb]; exact hc) (by rw [hb]; omega), hb]
    have h1 := runS_all hK t (p ++ [c]) (v * K + (digV c.toNat).toNat) (fun x hx => ho x (List.mem_cons_of_mem _ hx)) hv
    rw [show p ++ [c] ++ t = p ++ c :: t by simp, show (p ++ [c]).length = p.length + 1 by simp] at h1
    rw [h1, valL]

theorem hexC_val : ∀ d : Fin 16, (digV (hexC d.val).toNat).toNat = d.val ∧ digV (hexC d.val).toNat = d.val := by decide
theorem hexC_of {d K : Nat} (h : d < K) (hK : K ≤ 16) : ofB (hexC d).toNat K = true := by
  unfold ofB
  rw [(hexC_val ⟨d, by omega⟩).2]
  simp
  omega
theorem digS_val {K : Nat} (hK : 2 ≤ K) (hK16 : K ≤ 16) : ∀ (f v : Nat) (acc : List UInt8), v < K ^ f → valL K 0 (digS K f v acc) = valL K v acc
  | 0, v, acc, h => by
    obtain rfl : v = 0 := by simpa using h
    rfl
  | f + 1, v, acc, h => by
    by_cases hp : 0 < v ∨ acc = []
    · have h1 : v / K < K ^ f := by rw [Nat.div_lt_iff_lt_mul (by omega)]; rw [Nat.pow_succ] at h; exact h
      have hm : v % K < 16 := Nat.lt_of_lt_of_le (Nat.mod_lt _ (by omega)) hK16
      rw [digS_step hp, digS_val hK hK16 f (v / K) _ h1, valL, (hexC_val ⟨v % K, hm⟩).1, Nat.mul_comm, Nat.div_add_mod]
    · rw [digS_stop hp]
      obtain rfl : v = 0 := by omega
      rfl
theorem digS_mem {K : Nat} (hK : 2 ≤ K) : ∀ (f v : Nat) (acc : List UInt8), ∀ c ∈ digS K f v acc, c ∈ acc ∨ ∃ d, d < K ∧ c = hexC d
  | 0, v, acc, c, h => .inl h
  | f + 1, v, acc, c, h => by
    by_cases hp : 0 < v ∨ acc = []
    · rw [digS_step hp] at h
      rcases digS_mem hK f _ _ c h with h1 | h1
      · rcases List.mem_cons.1 h1 with h2 | h2
        · exact .inr ⟨v % K, Nat.mod_lt _ (by omega), h2⟩
        · exact .inl h2
      · exact .inr h1
    · rw [digS_stop hp] at h; exact .inl h
theorem digS_ne {K : Nat} : ∀ (f v : Nat) (acc : List UInt8), acc ≠ [] → digS K f v acc ≠ []
  | 0, v, acc, h => h
  | f + 1, v, acc, h => by
    by_cases hp : 0 < v ∨ acc = []
    · rw [digS_step hp]; exact digS_ne f _ _ (by simp)
    · rw [digS_stop hp]; exact h
theorem valL_zeros (K : Nat) : ∀ (n : Nat) (D : List UInt8), valL K 0 (List.replicate n 48 ++ D) = valL K 0 D
  | 0, D => rfl
  | n + 1, D => by
    rw [List.replicate_succ, List.cons_append, valL, show 0 * K + (digV (48 : UInt8).toNat).toNat = 0 by simp [digV]]
    exact valL_zeros K n D
theorem room (K : Nat) (hK : 2 ≤ K) {v : Nat} (hv : v ≤ 18446744073709551615) : v < K ^ 65 := by
  have h1 : 2 ^ 65 ≤ K ^ 65 := Nat.pow_le_pow_left hK 65
  have h2 : (2 : Nat) ^ 65 = 36893488147419103232 := by decide
  omega

/-- The digits of a number, padded: all are digits of the kind, and their value is the number. -/
theorem pad_digits {K W v : Nat} (hK : 2 ≤ K) (hK16 : K ≤ 16) (hv : v ≤ 18446744073709551615) : (∀ c ∈ padS W (digS K 65 v []), ∃ d, d < K ∧ c = hexC d) ∧ valL K 0 (padS W (digS K 65 v [])) = v ∧ padS W (digS K 65 v []) ≠ [] := by
  refine ⟨fun c hc => ?_, ?_, ?_⟩
  · unfold padS at hc
    rcases List.mem_append.1 hc with h1 | h1
    · exact ⟨0, by omega, (List.mem_replicate.1 h1).2⟩
    · rcases digS_mem hK 65 v [] c h1 with h2 | h2
      · cases h2
      · exact h2
  · unfold padS
    rw [valL_zeros, digS_val hK hK16 65 v [] (room K hK hv)]
    rfl
  · unfold padS
    intro h
    have h1 := (List.append_eq_nil_iff.1 h).2
    rw [digS_step (.inr rfl)] at h1
    exact digS_ne _ _ _ (by simp) h1

theorem head_of {s : List UInt8} {K A v : Nat} (hm : markS s = (K, A)) (h : runS K s (s.length - A) A 0 = (some v, s.length)) (hA : A < s.length) : headS s = (v, K, s.length, 0) := by
  unfold headS; rw [hm]; simp only; rw [h]; simp only; rw [if_neg (by omega)]
theorem read_of {s : List UInt8} {K v : Nat} (h : headS s = (v, K, s.length, 0)) : readS s = (v, K, 0, 0) := by
  rw [readS_eq h]; simp

theorem back_mark {K : Nat} {m : UInt8} (hK : 2 ≤ K) (hK16 : K ≤ 16) (hm : ∀ t, markS (m :: t) = (K, 1)) {W v : Nat} (hv : v ≤ 18446744073709551615) : readS (m :: padS W (digS K 65 v [])) = (v, K, 0, 0) := by
  obtain ⟨h1, h2, h3⟩ := pad_digits (W := W) hK hK16 hv
  generalize padS W (digS K 65 v []) = X at *
  refine read_of (head_of (hm X) ?_ (by cases X with | nil => exact absurd rfl h3 | cons a l => simp))
  have := runS_all (K := K) (by omega) X [m] 0 (fun c hc => by obtain ⟨d, hd, rfl⟩ := h1 c hc; exact hexC_of hd hK16) (by rw [h2]; exact hv)
  rw [h2] at this
  exact this
theorem mark_hex (t : List UInt8) : markS (36 :: t) = (16, 1) := by unfold markS; rw [if_pos ⟨by simp, rfl⟩]
theorem mark_bin (t : List UInt8) : markS (37 :: t) = (2, 1) := by unfold markS; rw [if_neg (by simp [byteAt]), if_pos ⟨by simp, rfl⟩]
theorem mark_oct (t : List UInt8) : markS (64 :: t) = (8, 1) := by unfold markS; rw [if_neg (by simp [byteAt]), if_neg (by simp [byteAt]), if_pos ⟨by simp, rfl⟩]
theorem dec_byte : ∀ d : Fin 10, 48 ≤ (hexC d.val).toNat ∧ (hexC d.val).toNat ≤ 57 := by decide
theorem mark_dec {X : List UInt8} (h : ∀ c ∈ X, ∃ d, d < 10 ∧ c = hexC d) : markS X = (10, 0) := by
  have hb : ∀ i, i < X.length → 48 ≤ byteAt X i ∧ byteAt X i ≤ 57 := fun i hi => by
    have h1 : X.getD i 0 ∈ X := by rw [List.getD, List.getElem?_eq_getElem hi]; exact List.getElem_mem hi
    obtain ⟨d, hd, he⟩ := h _ h1
    unfold byteAt
    rw [he]
    exact dec_byte ⟨d, hd⟩
  unfold markS
  rw [if_neg (fun h => by have := hb 0 h.1; omega), if_neg (fun h => by have := hb 0 h.1; omega), if_neg (fun h => by have := hb 0 h.1; omega), if_neg (fun h => by have := hb 1 (by omega); omega)]
theorem back_dec {W v : Nat} (hv : v ≤ 18446744073709551615) : readS (padS W (digS 10 65 v [])) = (v, 10, 0, 0) := by
  obtain ⟨h1, h2, h3⟩ := pad_digits (K := 10) (W := W) (by omega) (by omega) hv
  generalize padS W (digS 10 65 v []) = X at *
  refine read_of (head_of (mark_dec h1) ?_ (by cases X with | nil => exact absurd rfl h3 | cons a l => simp))
  have := runS_all (K := 10) (by omega) X [] 0 (fun c hc => by obtain ⟨d, hd, rfl⟩ := h1 c hc; exact hexC_of hd (by omega)) (by rw [h2]; exact hv)
  rw [h2] at this
  exact this
/-- P201: Read of Show is the number and the kind. -/
theorem back_show {v : Nat} {kind width : Int} (hv : v ≤ 18446744073709551615) (hk : kind = 10 ∨ kind = 16 ∨ kind = 2 ∨ kind = 8) (hw : ¬ (width < 0 ∨ 64 < width)) : (showS v kind width).2 = 0 ∧ readS (showS v kind width).1 = (v, kind.toNat, 0, 0) ∧ width.toNat ≤ (showS v kind width).1.length := by
  have hl : ∀ (K : Nat) (m : List UInt8), width.toNat ≤ (m ++ padS width.toNat (digS K 65 v [])).length := fun K m => by
    unfold padS; simp; omega
  rcases hk with rfl | rfl | rfl | rfl
  · rw [show_eq (m := []) rfl hw]; exact ⟨rfl, back_dec hv, hl _ _⟩
  · rw [show_eq (m := [36]) rfl hw]; exact ⟨rfl, back_mark (by decide) (by decide) mark_hex hv, hl _ _⟩
  · rw [show_eq (m := [37]) rfl hw]; exact ⟨rfl, back_mark (by decide) (by decide) mark_bin hv, hl _ _⟩
  · rw [show_eq (m := [64]) rfl hw]; exact ⟨rfl, back_mark (by decide) (by decide) mark_oct hv, hl _ _⟩
end Go.Proofs.Ytmmlmpcalhfigaa
