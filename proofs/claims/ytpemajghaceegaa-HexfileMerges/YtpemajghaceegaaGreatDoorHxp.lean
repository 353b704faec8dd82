/- Plain facts: digits, records and lines of hex texts. -/
namespace Go.Proofs.YtpemajghaceegaaGreatDoor
set_option linter.unusedVariables false

def dgS (v : UInt8) : UInt8 := if v < 10 then 48 + v else 55 + v
def hexS : List UInt8 → List UInt8
  | [] => []
  | b :: l => dgS (b / 16) :: dgS (b % 16) :: hexS l
def totS : List UInt8 → Nat
  | [] => 0
  | b :: l => b.toNat + totS l
def vaS (c : UInt8) : Option UInt8 :=
  if 48 ≤ c ∧ c ≤ 57 then some (c - 48) else if 65 ≤ c ∧ c ≤ 70 then some (c - 65 + 10) else if 97 ≤ c ∧ c ≤ 102 then some (c - 97 + 10) else none
def unS : List UInt8 → Option (List UInt8)
  | [] => some []
  | [_] => none
  | a :: b :: l => match vaS a, vaS b, unS l with
    | some x, some y, some r => some ((16 * x + y) :: r)
    | _, _, _ => none

theorem hex_len : ∀ b : List UInt8, (hexS b).length = 2 * b.length
  | [] => rfl
  | b :: l => by simp only [hexS, List.length_cons, hex_len l]; omega
theorem tot_append : ∀ a b : List UInt8, totS (a ++ b) = totS a + totS b
  | [], b => by simp [totS]
  | x :: a, b => by rw [List.cons_append, totS, totS, tot_append a b]; omega
theorem tot_le : ∀ a : List UInt8, totS a ≤ 255 * a.length
  | [] => Nat.le_refl _
  | x :: a => by
    have := tot_le a
    have := x.toNat_lt
    rw [totS, List.length_cons]; omega
theorem va_dg (v : UInt8) (h : v < 16) : vaS (dgS v) = some v := by
  have : ∀ n : Fin 16, vaS (dgS (UInt8.ofNat n.val)) = some (UInt8.ofNat n.val) := by decide +kernel
  have h2 := this ⟨v.toNat, by simpa [UInt8.lt_iff_toNat_lt] using h⟩
  simpa using h2
theorem va_lt {c v : UInt8} (h : vaS c = some v) : v.toNat < 16 := by
  have : ∀ n : Fin 256, ∀ v, vaS (UInt8.ofNat n.val) = some v → v.toNat < 16 := by
    intro n
    have h2 : ∀ n : Fin 256, ((vaS (UInt8.ofNat n.val)).getD 0).toNat < 16 := by decide +kernel
    intro v hv
    have := h2 n
    rw [hv] at this; exact this
  have h2 := this ⟨c.toNat, c.toNat_lt⟩ v
  simp only [UInt8.ofNat_toNat] at h2
  exact h2 h
theorem halves (b : UInt8) : b / 16 < 16 ∧ b % 16 < 16 ∧ 16 * (b / 16) + b % 16 = b := by
  have h := b.toNat_lt
  refine ⟨?_, ?_, ?_⟩
  · rw [UInt8.lt_iff_toNat_lt, UInt8.toNat_div]; show b.toNat / 16 < 16; omega
  · rw [UInt8.lt_iff_toNat_lt, UInt8.toNat_mod]; show b.toNat % 16 < 16; omega
  · apply UInt8.toNat_inj.1
    rw [UInt8.toNat_add, UInt8.toNat_mul, UInt8.toNat_div, UInt8.toNat_mod]
    show (16 * (b.toNat / 16) % 256 + b.toNat % 16) % 256 = b.toNat
    omega
theorem un_hex : ∀ b : List UInt8, unS (hexS b) = some b
  | [] => rfl
  | b :: l => by
    obtain ⟨h1, h2, h3⟩ := halves b
    simp only [hexS, unS, va_dg _ h1, va_dg _ h2, un_hex l, h3]
theorem hex_append : ∀ a b : List UInt8, hexS (a ++ b) = hexS a ++ hexS b
  | [], b => rfl
  | x :: a, b => by simp only [List.cons_append, hexS, hex_append a b]
theorem un_len : ∀ (s b : List UInt8), unS s = some b → s.length = 2 * b.length
  | [], b, h => by simp only [unS, Option.some.injEq] at h; subst h; rfl
  | [_], b, h => by simp [unS] at h
  | x :: y :: l, b, h => by
    simp only [unS] at h
    split at h
    · rename_i p q r h1 h2 h3
      simp only [Option.some.injEq] at h
      subst h
      have := un_len l r h3
      simp only [List.length_cons, this]; omega
    · exact absurd h (by simp)

/- what a record may be -/
def mayS (f k at' : Int) (d : List UInt8) : Bool :=
  decide (0 ≤ at' ∧ at' ≤ 65535 ∧ d.length ≤ 255) &&
  (if f = 1 then
    (if k = 0 then true else if k = 1 then decide (at' = 0 ∧ d.length = 0) else if k = 3 then decide (at' = 0 ∧ d.length = 4 ∧ d.getD 0 0 = 0 ∧ d.getD 1 0 = 0) else false)
  else if f = 2 then
    (if k = 0 then decide (at' = 0 ∧ d.length ≤ 252) else if k = 1 then decide (d.length ≤ 252) else if k = 5 ∨ k = 9 then decide (d.length = 0) else false)
  else if f = 3 then
    (if k = 0 then decide (0 < d.length) else if k = 1 then decide (d.length = 0) else false)
  else false)
def hiB (n : Nat) : UInt8 := UInt8.ofNat (n / 256)
def loB (n : Nat) : UInt8 := UInt8.ofNat n
/- the bytes of a record -/
def intB (k a : Nat) (d : List UInt8) : List UInt8 :=
  [UInt8.ofNat d.length, hiB a, loB a, UInt8.ofNat k] ++ d ++ [UInt8.ofNat (256 - totS ([UInt8.ofNat d.length, hiB a, loB a, UInt8.ofNat k] ++ d) % 256)]
def motB (a : Nat) (d : List UInt8) : List UInt8 :=
  [UInt8.ofNat (d.length + 3), hiB a, loB a] ++ d ++ [UInt8.ofNat (255 - totS ([UInt8.ofNat (d.length + 3), hiB a, loB a] ++ d) % 256)]
def mosB (a : Nat) (d : List UInt8) : List UInt8 :=
  [UInt8.ofNat d.length, hiB a, loB a] ++ d ++ [hiB (totS ([UInt8.ofNat d.length, hiB a, loB a] ++ d)), loB (totS ([UInt8.ofNat d.length, hiB a, loB a] ++ d))]
def recS (f k a : Nat) (d : List UInt8) : List UInt8 :=
  if f = 1 then 58 :: hexS (intB k a d) else if f = 2 then 83 :: (48 + UInt8.ofNat k) :: hexS (motB a d) else 59 :: hexS (mosB a d)
/- what a line is -/
abbrev Res := Except Nat (Nat × Nat × Nat × List UInt8)
def n2 (b : List UInt8) (i : Nat) : Nat := 256 * (b.getD i 0).toNat + (b.getD (i + 1) 0).toNat
def finS (f k a : Nat) (d : List UInt8) : Res := if mayS f k a d then .ok (f, k, a, d) else .error 210
def intS (b : List UInt8) : Res :=
  if b.length < 5 ∨ b.length ≠ (b.getD 0 0).toNat + 5 then .error 210
  else if totS b % 256 ≠ 0 then .error 211
  else finS 1 (b.getD 3 0).toNat (n2 b 1) ((b.drop 4).take (b.length - 5))
def motS (k : Nat) (b : List UInt8) : Res :=
  if b.length < 4 ∨ b.length ≠ (b.getD 0 0).toNat + 1 then .error 210
  else if totS b % 256 ≠ 255 then .error 211
  else finS 2 k (n2 b 1) ((b.drop 3).take (b.length - 4))
def mosS (b : List UInt8) : Res :=
  if b.length < 5 ∨ b.length ≠ (b.getD 0 0).toNat + 5 then .error 210
  else if totS (b.take (b.length - 2)) % 65536 ≠ n2 b (b.length - 2) then .error 211
  else finS 3 (if (b.getD 0 0).toNat = 0 then 1 else 0) (n2 b 1) ((b.drop 3).take (b.length - 5))
def lineS : List UInt8 → Res
  | [] => .error 210
  | c :: t =>
    if c = 58 then (match unS t with | none => .error 210 | some b => intS b)
    else if c = 83 then
      (match t with
       | [] => .error 210
       | k :: u => if k = 48 ∨ k = 49 ∨ k = 53 ∨ k = 57 then (match unS u with | none => .error 210 | some b => motS (k.toNat - 48) b) else .error 210)
    else if c = 59 then (match unS t with | none => .error 210 | some b => mosS b)
    else .error 210
theorem hiB_nat (n : Nat) : (hiB n).toNat = n / 256 % 256 := by unfold hiB; rw [UInt8.toNat_ofNat']
theorem loB_nat (n : Nat) : (loB n).toNat = n % 256 := by unfold loB; rw [UInt8.toNat_ofNat']
theorem of_nat (n : Nat) : (UInt8.ofNat n).toNat = n % 256 := UInt8.toNat_ofNat'
theorem int_len (k a : Nat) (d : List UInt8) : (intB k a d).length = d.length + 5 := by simp [intB]
theorem mot_len (a : Nat) (d : List UInt8) : (motB a d).length = d.length + 4 := by simp [motB]
theorem mos_len (a : Nat) (d : List UInt8) : (mosB a d).length = d.length + 5 := by simp [mosB]
theorem int_tot (k a : Nat) (d : List UInt8) : totS (intB k a d) % 256 = 0 := by
  unfold intB
  generalize hh : [UInt8.ofNat d.length, hiB a, loB a, UInt8.ofNat k] ++ d = h
  rw [tot_append]; simp only [totS, of_nat]; omega
theorem mot_tot (a : Nat) (d : List UInt8) : totS (motB a d) % 256 = 255 := by
  unfold motB
  generalize hh : [UInt8.ofNat (d.length + 3), hiB a, loB a] ++ d = h
  rw [tot_append]; simp only [totS, of_nat]; omega
theorem mos_cut (a : Nat) (d : List UInt8) : (mosB a d).take ((mosB a d).length - 2) = [UInt8.ofNat d.length, hiB a, loB a] ++ d := by
  rw [mos_len]; unfold mosB
  rw [List.take_left' (by simp)]
theorem mos_sum (a : Nat) (d : List UInt8) : n2 (mosB a d) ((mosB a d).length - 2) = totS ([UInt8.ofNat d.length, hiB a, loB a] ++ d) % 65536 := by
  rw [mos_len]; unfold mosB n2
  generalize hh : [UInt8.ofNat d.length, hiB a, loB a] ++ d = h
  have hl : h.length = d.length + 3 := by rw [← hh]; simp
  rw [List.getD_eq_getElem?_getD, List.getD_eq_getElem?_getD, List.getElem?_append_right (by omega), List.getElem?_append_right (by omega), show d.length + 5 - 2 - h.length = 0 by omega, show d.length + 5 - 2 + 1 - h.length = 1 by omega]
  simp only [List.getElem?_cons_zero, List.getElem?_cons_succ, Option.getD_some, hiB_nat, loB_nat]
  omega
theorem int_back (k a : Nat) (d : List UInt8) (hk : k < 256) (ha : a < 65536) (hd : d.length < 256) : intS (intB k a d) = finS 1 k a d := by
  have h0 : (intB k a d).getD 0 0 = UInt8.ofNat d.length := rfl
  have h1 : (intB k a d).getD 1 0 = hiB a := rfl
  have h2 : (intB k a d).getD 2 0 = loB a := rfl
  have h3 : (intB k a d).getD 3 0 = UInt8.ofNat k := rfl
  have h4 : ((intB k a d).drop 4).take ((intB k a d).length - 5) = d := by
    rw [int_len]; unfold intB
    simp [List.take_left']
  unfold intS n2
  rw [if_neg (by rw [int_len, h0, of_nat]; omega), if_neg (by rw [int_tot]; omega), h4, h1, h2, h3]
  rw [of_nat, hiB_nat, loB_nat, show k % 256 = k by omega, show 256 * (a / 256 % 256) + a % 256 = a by omega]
theorem mot_back (k a : Nat) (d : List UInt8) (ha : a < 65536) (hd : d.length < 253) : motS k (motB a d) = finS 2 k a d := by
  have h0 : (motB a d).getD 0 0 = UInt8.ofNat (d.length + 3) := rfl
  have h1 : (motB a d).getD 1 0 = hiB a := rfl
  have h2 : (motB a d).getD 2 0 = loB a := rfl
  have h4 : ((motB a d).drop 3).take ((motB a d).length - 4) = d := by
    rw [mot_len]; unfold motB
    simp [List.take_left']
  unfold motS n2
  rw [if_neg (by rw [mot_len, h0, of_nat]; omega), if_neg (by rw [mot_tot]; omega), h4, h1, h2]
  rw [hiB_nat, loB_nat, show 256 * (a / 256 % 256) + a % 256 = a by omega]
theorem mos_back (a : Nat) (d : List UInt8) (ha : a < 65536) (hd : d.length < 256) : mosS (mosB a d) = finS 3 (if d.length = 0 then 1 else 0) a d := by
  have h0 : (mosB a d).getD 0 0 = UInt8.ofNat d.length := rfl
  have h1 : (mosB a d).getD 1 0 = hiB a := rfl
  have h2 : (mosB a d).getD 2 0 = loB a := rfl
  have h4 : ((mosB a d).drop 3).take ((mosB a d).length - 5) = d := by
    rw [mos_len]; unfold mosB
    simp [List.take_left']
  unfold mosS
  rw [if_neg (by rw [mos_len, h0, of_nat]; omega), mos_sum, mos_cut, if_neg (by simp), h4, h0, of_nat]
  rw [show d.length % 256 = d.length by omega]
  unfold n2
  rw [h1, h2, hiB_nat, loB_nat, show 256 * (a / 256 % 256) + a % 256 = a by omega]
/- what a record may be, in numbers -/
theorem may_num {f k a : Int} {d : List UInt8} (h : mayS f k a d = true) : ∃ F K A : Nat, f = F ∧ k = K ∧ a = A ∧ (F = 1 ∨ F = 2 ∨ F = 3) ∧ A < 65536 ∧ d.length < 256 ∧
    (F = 1 → K = 0 ∨ K = 1 ∨ K = 3) ∧ (F = 2 → (K = 0 ∨ K = 1 ∨ K = 5 ∨ K = 9) ∧ d.length < 253) ∧ (F = 3 → K = if d.length = 0 then 1 else 0) := by
  unfold mayS at h
  rw [Bool.and_eq_true] at h
  obtain ⟨h1, h2⟩ := h
  have h1 := of_decide_eq_true h1
  have : f = 1 ∨ f = 2 ∨ f = 3 := by
    rcases Decidable.em (f = 1) with h | h; exact .inl h
    rcases Decidable.em (f = 2) with h' | h'; exact .inr (.inl h')
    rcases Decidable.em (f = 3) with h'' | h''; exact .inr (.inr h'')
    rw [if_neg h, if_neg h', if_neg h''] at h2; exact absurd h2 (by simp)
  rcases this with rfl | rfl | rfl
  · simp only [if_true] at h2
    have hk : k = 0 ∨ k = 1 ∨ k = 3 := by
      rcases Decidable.em (k = 0) with h | h; exact .inl h
      rcases Decidable.em (k = 1) with h' | h'; exact .inr (.inl h')
      rcases Decidable.em (k = 3) with h'' | h''; exact .inr (.inr h'')
      rw [if_neg h, if_neg h', if_neg h''] at h2; exact absurd h2 (by simp)
    exact ⟨1, k.toNat, a.toNat, rfl, by omega, by omega, .inl rfl, by omega, by omega, fun _ => by omega, fun h => by omega, fun h => by omega⟩
  · rw [if_neg (by omega), if_pos rfl] at h2
    have hk : k = 0 ∨ k = 1 ∨ k = 5 ∨ k = 9 := by
      rcases Decidable.em (k = 0) with h | h; exact .inl h
      rcases Decidable.em (k = 1) with h' | h'; exact .inr (.inl h')
      rcases Decidable.em (k = 5 ∨ k = 9) with h'' | h''; exact .inr (.inr h'')
      rw [if_neg h, if_neg h', if_neg h''] at h2; exact absurd h2 (by simp)
    have hd : d.length < 253 := by
      rcases hk with rfl | rfl | rfl | rfl
      · have := of_decide_eq_true (show decide (a = 0 ∧ d.length ≤ 252) = true from h2); omega
      · have := of_decide_eq_true (show decide (d.length ≤ 252) = true from h2); omega
      · have := of_decide_eq_true (show decide (d.length = 0) = true from h2); omega
      · have := of_decide_eq_true (show decide (d.length = 0) = true from h2); omega
    exact ⟨2, k.toNat, a.toNat, rfl, by omega, by omega, .inr (.inl rfl), by omega, by omega, fun h => by omega, fun _ => ⟨by omega, hd⟩, fun h => by omega⟩
  · rw [if_neg (by omega), if_neg (by omega), if_pos rfl] at h2
    have hk : k = if d.length = 0 then 1 else 0 := by
      rcases Decidable.em (k = 0) with rfl | h
      · rw [if_pos rfl] at h2; have := of_decide_eq_true h2; rw [if_neg (by omega)]
      · rw [if_neg h] at h2
        rcases Decidable.em (k = 1) with rfl | h'
        · rw [if_pos rfl] at h2; have := of_decide_eq_true h2; rw [if_pos this]
        · rw [if_neg h'] at h2; exact absurd h2 (by simp)
    refine ⟨3, k.toNat, a.toNat, rfl, ?_, by omega, .inr (.inr rfl), by omega, by omega, fun h => by omega, fun h => by omega, fun _ => ?_⟩
    · split at hk <;> omega
    · split at hk <;> simp_all
def fromS (f : Nat) : Nat := if f = 2 then 2 else 1
/- what a line of these bytes is -/
def bytesS (f k : Nat) (b : List UInt8) : Res := if f = 1 then intS b else if f = 2 then motS k b else mosS b
def headS (f k : Nat) : List UInt8 := if f = 1 then [58] else if f = 2 then [83, 48 + UInt8.ofNat k] else [59]
def recB (f k a : Nat) (d : List UInt8) : List UInt8 := if f = 1 then intB k a d else if f = 2 then motB a d else mosB a d
theorem rec_head (f k a : Nat) (d : List UInt8) : recS f k a d = headS f k ++ hexS (recB f k a d) := by
  unfold recS headS recB; split
  · rfl
  · split <;> rfl
theorem line_hex (f k : Nat) (b : List UInt8) (hf : f = 1 ∨ f = 2 ∨ f = 3) (hk : f = 2 → k = 0 ∨ k = 1 ∨ k = 5 ∨ k = 9) : lineS (headS f k ++ hexS b) = bytesS f k b := by
  rcases hf with rfl | rfl | rfl
  · show lineS (58 :: hexS b) = intS b
    simp only [lineS, if_true, un_hex]
  · show lineS (83 :: (48 + UInt8.ofNat k) :: hexS b) = motS k b
    have e : ∀ (c : UInt8) (u : List UInt8), lineS (83 :: c :: u) = if c = 48 ∨ c = 49 ∨ c = 53 ∨ c = 57 then (match unS u with | none => .error 210 | some b => motS (c.toNat - 48) b) else .error 210 := fun c u => rfl
    rw [e, un_hex]
    rcases hk rfl with rfl | rfl | rfl | rfl <;> rfl
  · have e : ∀ u : List UInt8, lineS (59 :: u) = (match unS u with | none => .error 210 | some b => mosS b) := fun u => rfl
    show lineS (59 :: hexS b) = mosS b
    rw [e, un_hex]
theorem bytes_back {F K A : Nat} {d : List UInt8} (h : mayS F K A d = true) : bytesS F K (recB F K A d) = .ok (F, K, A, d) := by
  obtain ⟨F', K', A', e1, e2, e3, hf, ha, hd, h1, h2, h3⟩ := may_num h
  obtain rfl : F = F' := by omega
  obtain rfl : K = K' := by omega
  obtain rfl : A = A' := by omega
  unfold bytesS recB
  rcases hf with rfl | rfl | rfl
  · rw [if_pos rfl, if_pos rfl, int_back _ _ _ (by have := h1 rfl; omega) ha hd]; unfold finS; rw [if_pos h]
  · rw [if_neg (by decide), if_pos rfl, if_neg (by decide), if_pos rfl, mot_back _ _ _ ha (h2 rfl).2]; unfold finS; rw [if_pos h]
  · rw [if_neg (by decide), if_neg (by decide), if_neg (by decide), if_neg (by decide), mos_back _ _ ha hd, ← h3 rfl]; unfold finS; rw [if_pos h]
theorem line_rec {F K A : Nat} {d : List UInt8} (h : mayS F K A d = true) : lineS (recS F K A d) = .ok (F, K, A, d) := by
  obtain ⟨F', K', A', e1, e2, e3, hf, ha, hd, h1, h2, h3⟩ := may_num h
  obtain rfl : F = F' := by omega
  obtain rfl : K = K' := by omega
  rw [rec_head, line_hex F K _ hf (fun h => (h2 h).1), bytes_back h]

/- one byte turned -/
theorem tot_set : ∀ (b : List UInt8) (j : Nat) (x : UInt8), j < b.length → totS (b.set j x) + (b.getD j 0).toNat = totS b + x.toNat
  | [], j, x, h => absurd h (Nat.not_lt_zero _)
  | y :: b, 0, x, h => by simp [totS]; omega
  | y :: b, j + 1, x, h => by
    have := tot_set b j x (by simpa using h)
    simp only [List.set_cons_succ, totS, List.getD_cons_succ]; omega
theorem getD_set (b : List UInt8) (j i : Nat) (x : UInt8) (h : j < b.length) : (b.set j x).getD i 0 = if j = i then x else b.getD i 0 := by
  rw [List.getD_eq_getElem?_getD, List.getD_eq_getElem?_getD, List.getElem?_set]
  by_cases e : j = i
  · rw [if_pos e, if_pos (by omega), if_pos e]; rfl
  · rw [if_neg e, if_neg e]
theorem int_turn {b : List UInt8} {j : Nat} {x : UInt8} (hj : j < b.length) (hx : x ≠ b.getD j 0) (hl : b.length = (b.getD 0 0).toNat + 5) (ht : totS b % 256 = 0) : ∃ e, intS (b.set j x) = .error e ∧ (e = 210 ∨ e = 211) := by
  have h1 := tot_set b j x hj
  have h2 := x.toNat_lt
  have h3 := (b.getD j 0).toNat_lt
  have h4 : x.toNat ≠ (b.getD j 0).toNat := fun h => hx (UInt8.toNat_inj.1 h)
  unfold intS
  rw [List.length_set, getD_set _ _ _ _ hj]
  by_cases h0 : j = 0
  · subst h0
    rw [if_pos rfl, if_pos (by omega)]; exact ⟨_, rfl, .inl rfl⟩
  · rw [if_neg h0, if_neg (by omega), if_pos (by omega)]; exact ⟨_, rfl, .inr rfl⟩
theorem mot_turn {k : Nat} {b : List UInt8} {j : Nat} {x : UInt8} (hj : j < b.length) (hx : x ≠ b.getD j 0) (hl : b.length = (b.getD 0 0).toNat + 1) (ht : totS b % 256 = 255) : ∃ e, motS k (b.set j x) = .error e ∧ (e = 210 ∨ e = 211) := by
  have h1 := tot_set b j x hj
  have h2 := x.toNat_lt
  have h3 := (b.getD j 0).toNat_lt
  have h4 : x.toNat ≠ (b.getD j 0).toNat := fun h => hx (UInt8.toNat_inj.1 h)
  unfold motS
  rw [List.length_set, getD_set _ _ _ _ hj]
  by_cases h0 : j = 0
  · subst h0
    rw [if_pos rfl, if_pos (by omega)]; exact ⟨_, rfl, .inl rfl⟩
  · rw [if_neg h0]
    by_cases h5 : b.length < 4
    · rw [if_pos (.inl h5)]; exact ⟨_, rfl, .inl rfl⟩
    · rw [if_neg (by omega), if_pos (by omega)]; exact ⟨_, rfl, .inr rfl⟩
theorem mos_turn {b : List UInt8} {j : Nat} {x : UInt8} (hj : j < b.length) (hx : x ≠ b.getD j 0) (hl : b.length = (b.getD 0 0).toNat + 5) (ht : totS (b.take (b.length - 2)) % 65536 = n2 b (b.length - 2)) : ∃ e, mosS (b.set j x) = .error e ∧ (e = 210 ∨ e = 211) := by
  have h2 := x.toNat_lt
  have h3 := (b.getD j 0).toNat_lt
  have h4 : x.toNat ≠ (b.getD j 0).toNat := fun h => hx (UInt8.toNat_inj.1 h)
  unfold mosS
  rw [List.length_set, getD_set _ _ _ _ hj]
  by_cases h0 : j = 0
  · subst h0
    rw [if_pos rfl, if_pos (by omega)]; exact ⟨_, rfl, .inl rfl⟩
  · rw [if_neg h0, if_neg (by omega)]
    have hb := hl
    refine ⟨211, if_pos ?_, .inr rfl⟩
    unfold n2 at *
    rw [getD_set _ _ _ _ hj, getD_set _ _ _ _ hj]
    have g1 := (b.getD (b.length - 2) 0).toNat_lt
    have g2 := (b.getD (b.length - 2 + 1) 0).toNat_lt
    by_cases h5 : j < b.length - 2
    · rw [if_neg (by omega), if_neg (by omega), ← ht]
      have h6 : (b.set j x).take (b.length - 2) = (b.take (b.length - 2)).set j x := by
        rw [List.take_set]
      have h1 := tot_set (b.take (b.length - 2)) j x (by rw [List.length_take]; omega)
      have h7 : (b.take (b.length - 2)).getD j 0 = b.getD j 0 := by
        rw [List.getD_eq_getElem?_getD, List.getD_eq_getElem?_getD, List.getElem?_take, if_pos h5]
      rw [h7] at h1
      rw [h6]
      omega
    · have h6 : (b.set j x).take (b.length - 2) = b.take (b.length - 2) := by
        rw [List.take_set, List.set_eq_of_length_le (by rw [List.length_take]; omega)]
      rw [h6, ht]
      by_cases h7 : j = b.length - 2
      · rw [if_pos h7, if_neg (by omega)]
        rw [← h7] at *
        omega
      · have h8 : j = b.length - 2 + 1 := by omega
        rw [if_neg h7, if_pos h8]
        rw [← h8] at *
        omega
theorem bytes_turn {F K A : Nat} {d : List UInt8} (h : mayS F K A d = true) {j : Nat} {x : UInt8} (hj : j < (recB F K A d).length) (hx : x ≠ (recB F K A d).getD j 0) :
    ∃ e, bytesS F K ((recB F K A d).set j x) = .error e ∧ (e = 210 ∨ e = 211) := by
  obtain ⟨F', K', A', e1, e2, e3, hf, ha, hd, h1, h2, h3⟩ := may_num h
  obtain rfl : F = F' := by omega
  rcases hf with rfl | rfl | rfl
  · show ∃ e, intS ((intB K A d).set j x) = .error e ∧ (e = 210 ∨ e = 211)
    refine int_turn hj hx ?_ (int_tot _ _ _)
    show (intB K A d).length = ((intB K A d).getD 0 0).toNat + 5
    rw [int_len, show (intB K A d).getD 0 0 = UInt8.ofNat d.length from rfl, of_nat]; omega
  · have := (h2 rfl).2
    show ∃ e, motS K ((motB A d).set j x) = .error e ∧ (e = 210 ∨ e = 211)
    refine mot_turn hj hx ?_ (mot_tot _ _)
    show (motB A d).length = ((motB A d).getD 0 0).toNat + 1
    rw [mot_len, show (motB A d).getD 0 0 = UInt8.ofNat (d.length + 3) from rfl, of_nat]; omega
  · show ∃ e, mosS ((mosB A d).set j x) = .error e ∧ (e = 210 ∨ e = 211)
    refine mos_turn hj hx ?_ (by rw [mos_cut, mos_sum])
    show (mosB A d).length = ((mosB A d).getD 0 0).toNat + 5
    rw [mos_len, show (mosB A d).getD 0 0 = UInt8.ofNat d.length from rfl, of_nat]; omega
/- one digit turned -/
theorem dg_inj {u v : UInt8} (hu : u < 16) (hv : v < 16) (h : dgS u = dgS v) : u = v := by
  have := va_dg u hu
  rw [h, va_dg v hv] at this
  exact (Option.some.inj this).symm
theorem nib (b v : UInt8) (hv : v < 16) : (16 * v + b % 16) / 16 = v ∧ (16 * v + b % 16) % 16 = b % 16 ∧ (16 * (b / 16) + v) / 16 = b / 16 ∧ (16 * (b / 16) + v) % 16 = v := by
  have h := b.toNat_lt
  have hv' : v.toNat < 16 := by simpa [UInt8.lt_iff_toNat_lt] using hv
  have e1 : (16 * v + b % 16).toNat = 16 * v.toNat + b.toNat % 16 := by
    rw [UInt8.toNat_add, UInt8.toNat_mul, UInt8.toNat_mod]
    show (16 * v.toNat % 256 + b.toNat % 16) % 256 = _
    omega
  have e2 : (16 * (b / 16) + v).toNat = 16 * (b.toNat / 16) + v.toNat := by
    rw [UInt8.toNat_add, UInt8.toNat_mul, UInt8.toNat_div]
    show (16 * (b.toNat / 16) % 256 + v.toNat) % 256 = _
    omega
  refine ⟨?_, ?_, ?_, ?_⟩ <;> apply UInt8.toNat_inj.1
  · rw [UInt8.toNat_div, e1]; show (16 * v.toNat + b.toNat % 16) / 16 = v.toNat; omega
  · rw [UInt8.toNat_mod, e1, UInt8.toNat_mod]; show (16 * v.toNat + b.toNat % 16) % 16 = b.toNat % 16; omega
  · rw [UInt8.toNat_div, e2, UInt8.toNat_div]; show (16 * (b.toNat / 16) + v.toNat) / 16 = b.toNat / 16; omega
  · rw [UInt8.toNat_mod, e2]; show (16 * (b.toNat / 16) + v.toNat) % 16 = v.toNat; omega
theorem hex_set : ∀ (b : List UInt8) (k : Nat) (v : UInt8), v < 16 → k < 2 * b.length → ∃ j x, j < b.length ∧ (hexS b).set k (dgS v) = hexS (b.set j x) ∧ (x = b.getD j 0 → (hexS b).set k (dgS v) = hexS b)
  | [], k, v, hv, h => absurd h (Nat.not_lt_zero _)
  | y :: b, 0, v, hv, h => by
    obtain ⟨h1, h2, h3, h4⟩ := nib y v hv
    refine ⟨0, 16 * v + y % 16, by simp, ?_, fun hx => ?_⟩
    · simp only [hexS, List.set_cons_zero, h1, h2]
    · simp only [List.getD_cons_zero] at hx
      rw [hx] at h1
      simp only [hexS, List.set_cons_zero, h1]
  | y :: b, 1, v, hv, h => by
    obtain ⟨h1, h2, h3, h4⟩ := nib y v hv
    refine ⟨0, 16 * (y / 16) + v, by simp, ?_, fun hx => ?_⟩
    · simp only [hexS, List.set_cons_zero, List.set_cons_succ, h3, h4]
    · simp only [List.getD_cons_zero] at hx
      rw [hx] at h4
      simp only [hexS, List.set_cons_zero, List.set_cons_succ, h4]
  | y :: b, k + 2, v, hv, h => by
    obtain ⟨j, x, h1, h2, h3⟩ := hex_set b k v hv (by simp only [List.length_cons] at h; omega)
    refine ⟨j + 1, x, by simpa using h1, ?_, fun hx => ?_⟩
    · simp only [hexS, List.set_cons_succ, h2]
    · simp only [List.getD_cons_succ] at hx
      simp only [hexS, List.set_cons_succ, h3 hx]
theorem line_turn {F K A : Nat} {d : List UInt8} (h : mayS F K A d = true) {k : Nat} {v : UInt8} (hv : v < 16) (hk : fromS F ≤ k) (hl : k < (recS F K A d).length) (hne : (recS F K A d).set k (dgS v) ≠ recS F K A d) :
    ∃ e, lineS ((recS F K A d).set k (dgS v)) = .error e ∧ (e = 210 ∨ e = 211) := by
  obtain ⟨F', K', A', e1, e2, e3, hf, ha, hd, h1, h2, h3⟩ := may_num h
  obtain rfl : F = F' := by omega
  obtain rfl : K = K' := by omega
  rw [rec_head] at *
  have hh : (headS F K).length = fromS F := by
    unfold headS fromS
    rcases hf with rfl | rfl | rfl <;> rfl
  rw [List.length_append, hex_len, hh] at hl
  rw [List.set_append_right _ _ (by omega)] at hne ⊢
  rw [hh] at hne ⊢
  obtain ⟨j, x, g1, g2, g3⟩ := hex_set (recB F K A d) (k - fromS F) v hv (by omega)
  have hx : x ≠ (recB F K A d).getD j 0 := fun hx => hne (by rw [g3 hx])
  obtain ⟨e, he, ho⟩ := bytes_turn h g1 hx
  exact ⟨e, by rw [g2, line_hex F K _ hf (fun h => (h2 h).1), he], ho⟩
end Go.Proofs.YtpemajghaceegaaGreatDoor
