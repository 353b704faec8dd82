/- Plain facts: what is told with a sign is read again; texts of one width are in the order of their numbers; the chapter's examples. -/
import Derived.Test.YtmmlmpcalhfigabBack
import Derived.Test.YtmmlmpcalhfigabSig
namespace Go.Proofs.Ytmmlmpcalhfigab
open Go
set_option linter.unusedVariables false

theorem pad_zero (D : List UInt8) : padS 0 D = D := by unfold padS; simp
theorem dig_first {v : Nat} (hv : v ≤ 18446744073709551615) : byteAt (digS 10 65 v []) 0 ≠ 45 := by
  obtain ⟨h1, _, h3⟩ := pad_digits (K := 10) (W := 0) (by omega) (by omega) hv
  rw [pad_zero] at h1 h3
  generalize digS 10 65 v [] = X at *
  cases X with
  | nil => exact absurd rfl h3
  | cons a l =>
    obtain ⟨d, hd, he⟩ := h1 a List.mem_cons_self
    have := dec_byte ⟨d, hd⟩
    simp only at this
    unfold byteAt
    simp only [List.getD_cons_zero]
    rw [he]
    omega
/-- P204: Signed of Decimal. -/
theorem back_signed {v : Int} (h0 : -9223372036854775808 ≤ v) (h1 : v ≤ 9223372036854775807) : signedS (decS v) = (v, 0, 0) := by
  unfold decS
  by_cases hp : 0 ≤ v
  · rw [if_pos hp]
    have hr := back_dec (W := 0) (v := v.toNat) (by omega)
    rw [pad_zero] at hr
    have hf := dig_first (v := v.toNat) (by omega)
    have hs := signed_eq (s := digS 10 65 v.toNat []) (m := 0) (v := v.toNat) (kd := 10) (n := 0) (er := 0) (if_neg (fun h => hf h.2)) (by rw [List.drop_zero]; exact hr)
    rw [hs, if_neg (by simp), if_neg (by omega), if_neg (by omega)]
    simp only [Prod.mk.injEq, and_true]
    omega
  · rw [if_neg hp]
    have hr := back_dec (W := 0) (v := (-v).toNat) (by omega)
    rw [pad_zero] at hr
    have hs := signed_eq (s := 45 :: digS 10 65 (-v).toNat []) (m := 1) (v := (-v).toNat) (kd := 10) (n := 0) (er := 0) (if_pos ⟨by simp, rfl⟩) (by rw [List.drop_succ_cons, List.drop_zero]; exact hr)
    rw [hs, if_neg (by simp), if_neg (by omega), if_pos rfl]
    simp only [Prod.mk.injEq, and_true]
    omega

theorem digS_short {K : Nat} (hK : 2 ≤ K) : ∀ (f v : Nat) (acc : List UInt8) (n : Nat), v < K ^ n → 1 ≤ n + acc.length → (digS K f v acc).length ≤ acc.length + n
  | 0, v, acc, n, _, _ => by rw [digS]; omega
  | f + 1, v, acc, n, h, h1 => by
    by_cases hp : 0 < v ∨ acc = []
    · rw [digS_step hp]
      match n, h, h1 with
      | 0, h, h1 =>
        obtain rfl : v = 0 := by simpa using h
        rcases hp with hp | hp
        · omega
        · subst hp; simp at h1
      | n + 1, h, h1 =>
        have h2 : v / K < K ^ n := by rw [Nat.div_lt_iff_lt_mul (by omega)]; rw [Nat.pow_succ] at h; exact h
        have := digS_short hK f (v / K) (hexC (v % K) :: acc) n h2 (by simp only [List.length_cons]; omega)
        simp only [List.length_cons] at this
        omega
    · rw [digS_stop hp]; omega
theorem pad_len {K W v : Nat} (hK : 2 ≤ K) (hW : 1 ≤ W) (h : v < K ^ W) : (padS W (digS K 65 v [])).length = W := by
  have := digS_short hK 65 v [] W h (by simp; omega)
  unfold padS
  simp at this ⊢
  omega

theorem hex_mono : ∀ d e : Fin 16, ((hexC d.val).toNat < (hexC e.val).toNat ↔ d.val < e.val) := by decide
theorem valL_add (K : Nat) : ∀ (t : List UInt8) (v : Nat), valL K v t = v * K ^ t.length + valL K 0 t
  | [], v => by simp [valL]
  | c :: t, v => by
    rw [valL, valL, valL_add K t (v * K + (digV c.toNat).toNat), valL_add K t (0 * K + (digV c.toNat).toNat), List.length_cons, Nat.pow_succ]
    rw [Nat.add_mul, Nat.zero_mul, Nat.zero_add, Nat.mul_assoc, Nat.mul_comm K]
    omega
theorem valL_lt {K : Nat} (hK : 2 ≤ K) (hK16 : K ≤ 16) : ∀ t : List UInt8, (∀ c ∈ t, ∃ d, d < K ∧ c = hexC d) → valL K 0 t < K ^ t.length
  | [], _ => by simp [valL]
  | c :: t, h => by
    obtain ⟨d, hd, rfl⟩ := h c List.mem_cons_self
    have h1 := valL_lt hK hK16 t (fun x hx => h x (List.mem_cons_of_mem _ hx))
    rw [valL, valL_add, (hexC_val ⟨d, by omega⟩).1, List.length_cons, Nat.pow_succ, Nat.zero_mul, Nat.zero_add]
    have h2 : (d + 1) * K ^ t.length ≤ K * K ^ t.length := Nat.mul_le_mul_right _ hd
    rw [Nat.add_mul, Nat.one_mul] at h2
    rw [Nat.mul_comm (K ^ t.length) K]
    show d * K ^ t.length + _ < _
    omega
/-- P203: texts of digits of one length are in the order of their values. -/
theorem less_val {K : Nat} (hK : 2 ≤ K) (hK16 : K ≤ 16) : ∀ (X Y : List UInt8), X.length = Y.length → (∀ c ∈ X, ∃ d, d < K ∧ c = hexC d) → (∀ c ∈ Y, ∃ d, d < K ∧ c = hexC d) → (Op.bytesLess X Y = true ↔ valL K 0 X < valL K 0 Y)
  | [], [], _, _, _ => by simp [Op.bytesLess, valL]
  | [], _ :: _, h, _, _ => by simp at h
  | _ :: _, [], h, _, _ => by simp at h
  | x :: X, y :: Y, hl, hX, hY => by
    have hl' : X.length = Y.length := by simpa using hl
    have ih := less_val hK hK16 X Y hl' (fun c hc => hX c (List.mem_cons_of_mem _ hc)) (fun c hc => hY c (List.mem_cons_of_mem _ hc))
    have lx := valL_lt hK hK16 X (fun c hc => hX c (List.mem_cons_of_mem _ hc))
    have ly := valL_lt hK hK16 Y (fun c hc => hY c (List.mem_cons_of_mem _ hc))
    obtain ⟨d, hd, rfl⟩ := hX x List.mem_cons_self
    obtain ⟨e, he, rfl⟩ := hY y List.mem_cons_self
    have hm := hex_mono ⟨d, by omega⟩ ⟨e, by omega⟩
    have hm2 := hex_mono ⟨e, by omega⟩ ⟨d, by omega⟩
    simp only at hm hm2
    rw [valL, valL, valL_add, valL_add K Y, (hexC_val ⟨d, by omega⟩).1, (hexC_val ⟨e, by omega⟩).1, Nat.zero_mul, Nat.zero_add, Nat.zero_add, hl']
    rw [hl'] at lx
    simp only
    generalize K ^ Y.length = P at *
    simp only [Op.bytesLess, Bool.or_eq_true, Bool.and_eq_true, decide_eq_true_eq, beq_iff_eq]
    rw [ih]
    have hu : (hexC d < hexC e) ↔ d < e := by rw [← hm]; exact UInt8.lt_iff_toNat_lt
    rw [hu]
    by_cases h1 : d < e
    · have h3 : (d + 1) * P ≤ e * P := Nat.mul_le_mul_right _ h1
      rw [Nat.add_mul, Nat.one_mul] at h3
      exact ⟨fun _ => by omega, fun _ => .inl h1⟩
    · by_cases h2 : e < d
      · have h3 : (e + 1) * P ≤ d * P := Nat.mul_le_mul_right _ h2
        rw [Nat.add_mul, Nat.one_mul] at h3
        have hne : hexC d ≠ hexC e := fun h => by rw [h] at hm2; omega
        exact ⟨fun h => by rcases h with h | h; exact absurd h h1; exact absurd h.1 hne, fun h => by omega⟩
      · obtain rfl : d = e := by omega
        exact ⟨fun h => by rcases h with h | h; exact absurd h h1; have := h.2; omega, fun h => .inr ⟨rfl, by omega⟩⟩

/-- The chapter's examples that every statement asks for. -/
theorem live_read : readS [48, 88, 49, 102] = (31, 16, 0, 0) := by decide
theorem live_show : showS 255 16 4 = ([36, 48, 48, 70, 70], 0) := by decide
theorem live_head : headS [36] = (0, 0, 1, 20) := by decide
theorem live_digit : digV 97 = 10 := by decide
theorem live_width : widS ⟨#[195, 169, 33]⟩ 0 = 2 := by
  rw [widS_in (by decide), show (0 : Nat) + (Utf8.decode ⟨#[195, 169, 33]⟩ 0).2 = 2 by decide, widS_in (by decide), show (2 : Nat) + (Utf8.decode ⟨#[195, 169, 33]⟩ 2).2 = 3 by decide, widS_end (by decide)]
end Go.Proofs.Ytmmlmpcalhfigab
