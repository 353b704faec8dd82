/- Plain facts on lines: how many places agree with a line, put together bit by bit; those of the substitution. -/
import Derived.Test.YtdbledfpphkppaaCnt
namespace Go.Proofs.Ytdbledfpphkppaa
set_option linter.unusedVariables false
def sbL : List Nat := [
  99, 124, 119, 123, 242, 107, 111, 197, 48, 1, 103, 43, 254, 215, 171, 118,
  202, 130, 201, 125, 250, 89, 71, 240, 173, 212, 162, 175, 156, 164, 114, 192,
  183, 253, 147, 38, 54, 63, 247, 204, 52, 165, 229, 241, 113, 216, 49, 21,
  4, 199, 35, 195, 24, 150, 5, 154, 7, 18, 128, 226, 235, 39, 178, 117,
  9, 131, 44, 26, 27, 110, 90, 160, 82, 59, 214, 179, 41, 227, 47, 132,
  83, 209, 0, 237, 32, 252, 177, 91, 106, 203, 190, 57, 74, 76, 88, 207,
  208, 239, 170, 251, 67, 77, 51, 133, 69, 249, 2, 127, 80, 60, 159, 168,
  81, 163, 64, 143, 146, 157, 56, 245, 188, 182, 218, 33, 16, 255, 243, 210,
  205, 12, 19, 236, 95, 151, 68, 23, 196, 167, 126, 61, 100, 93, 25, 115,
  96, 129, 79, 220, 34, 42, 144, 136, 70, 238, 184, 20, 222, 94, 11, 219,
  224, 50, 58, 10, 73, 6, 36, 92, 194, 211, 172, 98, 145, 149, 228, 121,
  231, 200, 55, 109, 141, 213, 78, 169, 108, 86, 244, 234, 101, 122, 174, 8,
  186, 120, 37, 46, 28, 166, 180, 198, 232, 221, 116, 31, 75, 189, 139, 138,
  112, 62, 181, 102, 72, 3, 246, 14, 97, 53, 87, 185, 134, 193, 29, 158,
  225, 248, 152, 17, 105, 217, 142, 148, 155, 30, 135, 233, 206, 85, 40, 223,
  140, 161, 137, 13, 191, 230, 66, 104, 65, 153, 45, 15, 176, 84, 187, 22]
def parK (v : Nat) : Nat :=
  (fun a => (fun b => (b ^^^ b >>> 1) &&& 1) (a ^^^ a >>> 2)) (v ^^^ v >>> 4)
def lw : Nat → List Nat → List Nat
  | 0, l => l.map (fun b => 1 - b)
  | k + 1, l => (fun p q => List.zipWith (fun a b => a + b) p q ++ List.zipWith (fun a b => a + (2 ^ k - b)) p q) (lw k (l.take (2 ^ k))) (lw k (l.drop (2 ^ k)))
theorem lw_len : ∀ (k : Nat) (l : List Nat), l.length = 2 ^ k → (lw k l).length = 2 ^ k
  | 0, l, h => by simp [lw, h]
  | k + 1, l, h => by
    have hp : 2 ^ (k + 1) = 2 ^ k + 2 ^ k := by rw [Nat.pow_succ]; omega
    have h1 := lw_len k (l.take (2 ^ k)) (by rw [List.length_take]; omega)
    have h2 := lw_len k (l.drop (2 ^ k)) (by rw [List.length_drop]; omega)
    simp [lw, h1, h2, hp]
theorem ct_add (p : Nat → Bool) (m : Nat) : ∀ n, ct p (m + n) = ct p m + ct (fun x => p (m + x)) n
  | 0 => rfl
  | n + 1 => by rw [← Nat.add_assoc, ct_succ, ct_succ, ct_add p m n]; omega
theorem ones_congr {u v : Nat} : ∀ k, (∀ i, i < k → u.testBit i = v.testBit i) → onesTo u k = onesTo v k
  | 0, _ => rfl
  | k + 1, h => by rw [onesTo, onesTo, ones_congr k (fun i hi => h i (by omega)), h k (by omega)]
theorem getD_take {l : List Nat} {n x : Nat} (h : x < n) : (l.take n).getD x 0 = l.getD x 0 := by
  rw [List.getD_eq_getElem?_getD, List.getD_eq_getElem?_getD, List.getElem?_take, if_pos h]
theorem getD_drop (l : List Nat) (n x : Nat) : (l.drop n).getD x 0 = l.getD (n + x) 0 := by
  rw [List.getD_eq_getElem?_getD, List.getD_eq_getElem?_getD, List.getElem?_drop]
theorem zip_at (f : Nat → Nat → Nat) {p q : List Nat} {a : Nat} (hp : a < p.length) (hq : a < q.length) : (List.zipWith f p q).getD a 0 = f (p.getD a 0) (q.getD a 0) := by
  rw [List.getD_eq_getElem?_getD, List.getElem?_eq_getElem (by simp; omega), Option.getD_some, List.getElem_zipWith,
    List.getD_eq_getElem?_getD, List.getElem?_eq_getElem hp, List.getD_eq_getElem?_getD, List.getElem?_eq_getElem hq]; rfl
theorem flip2 {m n b : Nat} (hb : b < 2) (hn : n < 2) : ((m + 1) % 2 == b) = !(m % 2 == b) := by
  rw [Bool.eq_iff_iff]; simp only [beq_iff_eq, Bool.not_eq_true', beq_eq_false_iff_ne]; omega
theorem lw_at : ∀ (k : Nat) (l : List Nat), l.length = 2 ^ k → (∀ x, l.getD x 0 < 2) → ∀ a, a < 2 ^ k → (lw k l).getD a 0 = ct (fun x => onesTo (x &&& a) k % 2 == l.getD x 0) (2 ^ k)
  | 0, l, h, hb, a, ha => by
    have ha : a = 0 := by simp at ha; omega
    subst ha
    match l, h with
    | [v], _ =>
      have : v < 2 := by simpa using hb 0
      have : v = 0 ∨ v = 1 := by omega
      rcases this with rfl | rfl <;> rfl
  | k + 1, l, h, hb, a, ha => by
    have hp : 2 ^ (k + 1) = 2 ^ k + 2 ^ k := by rw [Nat.pow_succ]; omega
    have hl1 : (l.take (2 ^ k)).length = 2 ^ k := by rw [List.length_take]; omega
    have hl2 : (l.drop (2 ^ k)).length = 2 ^ k := by rw [List.length_drop]; omega
    have n1 := lw_len k _ hl1
    have n2 := lw_len k _ hl2
    have hb1 : ∀ x, (l.take (2 ^ k)).getD x 0 < 2 := fun x => by
      rw [List.getD_eq_getElem?_getD, List.getElem?_take]; split
      · rw [← List.getD_eq_getElem?_getD]; exact hb x
      · simp
    have hb2 : ∀ x, (l.drop (2 ^ k)).getD x 0 < 2 := fun x => by rw [getD_drop]; exact hb _
    have i1 := lw_at k _ hl1 hb1
    have i2 := lw_at k _ hl2 hb2
    have lo : ∀ {x : Nat}, x < 2 ^ k → x.testBit k = false := fun hx => Nat.testBit_lt_two_pow hx
    rw [hp, ct_add]
    show (List.zipWith (fun a b => a + b) (lw k (l.take (2 ^ k))) (lw k (l.drop (2 ^ k))) ++ List.zipWith (fun a b => a + (2 ^ k - b)) (lw k (l.take (2 ^ k))) (lw k (l.drop (2 ^ k)))).getD a 0 = _
    by_cases hlt : a < 2 ^ k
    · have e : (List.zipWith (fun a b => a + b) (lw k (l.take (2 ^ k))) (lw k (l.drop (2 ^ k))) ++ List.zipWith (fun a b => a + (2 ^ k - b)) (lw k (l.take (2 ^ k))) (lw k (l.drop (2 ^ k)))).getD a 0
          = (lw k (l.take (2 ^ k))).getD a 0 + (lw k (l.drop (2 ^ k))).getD a 0 := by
        rw [List.getD_eq_getElem?_getD, List.getElem?_append_left (by simp; omega), ← List.getD_eq_getElem?_getD, zip_at _ (by omega) (by omega)]
      rw [e, i1 a hlt, i2 a hlt]
      congr 1
      · refine ct_congr fun x hx => ?_
        rw [getD_take hx, onesTo, Nat.testBit_and, lo hx]; rfl
      · refine ct_congr fun x hx => ?_
        rw [getD_drop, onesTo, Nat.testBit_and, lo hlt, Bool.and_false]
        rw [ones_congr (u := 2 ^ k + x &&& a) (v := x &&& a) k fun i hi => by rw [Nat.testBit_and, Nat.testBit_and, Nat.testBit_two_pow_add_gt hi]]
        rfl
    · obtain ⟨c, rfl⟩ : ∃ c, a = 2 ^ k + c := ⟨a - 2 ^ k, by omega⟩
      have hc : c < 2 ^ k := by omega
      have e : (List.zipWith (fun a b => a + b) (lw k (l.take (2 ^ k))) (lw k (l.drop (2 ^ k))) ++ List.zipWith (fun a b => a + (2 ^ k - b)) (lw k (l.take (2 ^ k))) (lw k (l.drop (2 ^ k)))).getD (2 ^ k + c) 0
          = (lw k (l.take (2 ^ k))).getD c 0 + (2 ^ k - (lw k (l.drop (2 ^ k))).getD c 0) := by
        rw [List.getD_eq_getElem?_getD, List.getElem?_append_right (by simp; omega)]
        rw [show 2 ^ k + c - (List.zipWith (fun a b => a + b) (lw k (l.take (2 ^ k))) (lw k (l.drop (2 ^ k)))).length = c from by simp; omega]
        rw [← List.getD_eq_getElem?_getD, zip_at _ (by omega) (by omega)]
      rw [e, i1 c hc, i2 c hc]
      congr 1
      · refine ct_congr fun x hx => ?_
        rw [getD_take hx, onesTo, Nat.testBit_and, lo hx]
        rw [ones_congr (u := x &&& (2 ^ k + c)) (v := x &&& c) k fun i hi => by rw [Nat.testBit_and, Nat.testBit_and, Nat.testBit_two_pow_add_gt hi]]
        rfl
      · rw [show 2 ^ k - ct (fun x => onesTo (x &&& c) k % 2 == (l.drop (2 ^ k)).getD x 0) (2 ^ k) = ct (fun x => !(onesTo (x &&& c) k % 2 == (l.drop (2 ^ k)).getD x 0)) (2 ^ k) from by have := ct_not (fun x => onesTo (x &&& c) k % 2 == (l.drop (2 ^ k)).getD x 0) (2 ^ k); omega]
        refine ct_congr fun x hx => ?_
        rw [getD_drop, onesTo, Nat.testBit_and, Nat.testBit_two_pow_add_eq, Nat.testBit_two_pow_add_eq, lo hx, lo hc]
        rw [ones_congr (u := 2 ^ k + x &&& (2 ^ k + c)) (v := x &&& c) k fun i hi => by rw [Nat.testBit_and, Nat.testBit_and, Nat.testBit_two_pow_add_gt hi, Nat.testBit_two_pow_add_gt hi]]
        exact (flip2 (n := 0) (hb _) (by omega)).symm
theorem par_all : ((List.range 256).all fun v => onesTo v 8 % 2 == parK v) = true := by decide +kernel
theorem par_k {v : Nat} (h : v < 256) : parS v = parK v := by
  have := List.all_eq_true.1 par_all v (by simpa using h)
  simpa [parS] using this
theorem sbL_len : sbL.length = 256 := by decide +kernel
theorem sbL_small : (sbL.all fun s => Nat.blt s 256) = true := by decide +kernel
def sbN (x : Nat) : Nat := sbL.getD x 0
theorem sbN_lt (x : Nat) : sbN x < 256 := by
  unfold sbN; rw [List.getD_eq_getElem?_getD]
  cases h : sbL[x]? with
  | none => simp
  | some v => have := List.all_eq_true.1 sbL_small v (List.mem_of_getElem? h); simpa using this
theorem parK_lt (v : Nat) : parK v < 2 := by
  unfold parK; exact Nat.lt_of_le_of_lt Nat.and_le_right (by omega)
theorem lin_lw {b a : Nat} (hb : b < 256) (ha : a < 256) : linS sbN a b = (lw 8 (sbL.map fun s => parK (s &&& b))).getD a 0 := by
  have hd : ∀ x, (sbL.map fun s => parK (s &&& b)).getD x 0 = if x < 256 then parS (sbN x &&& b) else 0 := fun x => by
    rw [List.getD_eq_getElem?_getD, List.getElem?_map]
    split
    · rename_i h
      rw [List.getElem?_eq_getElem (by rw [sbL_len]; exact h)]
      show parK (sbL[x]'_ &&& b) = _
      rw [par_k (Nat.lt_of_le_of_lt Nat.and_le_right hb)]
      unfold sbN; rw [List.getD_eq_getElem?_getD, List.getElem?_eq_getElem (by rw [sbL_len]; exact h)]; rfl
    · rename_i h
      rw [List.getElem?_eq_none (by rw [sbL_len]; omega)]; rfl
  rw [lw_at 8 _ (by rw [List.length_map, sbL_len]) (fun x => by rw [hd]; split; exact par_lt _; omega) a ha]
  unfold linS
  refine ct_congr fun x hx => ?_
  rw [hd, if_pos hx]; rfl
def linOk (b : Nat) : Bool := (lw 8 (sbL.map fun s => parK (s &&& b))).all fun e => Nat.ble 112 e && Nat.ble e 144
theorem lin_of_ok {b a : Nat} (hb : b < 256) (ha : a < 256) (h : linOk b = true) : 112 ≤ linS sbN a b ∧ linS sbN a b ≤ 144 := by
  rw [lin_lw hb ha]
  have hl := lw_len 8 (sbL.map fun s => parK (s &&& b)) (by rw [List.length_map, sbL_len])
  have := List.all_eq_true.1 h ((lw 8 (sbL.map fun s => parK (s &&& b))).getD a 0) (by
    rw [List.getD_eq_getElem?_getD, List.getElem?_eq_getElem (by rw [hl]; exact ha), Option.getD_some]; exact List.getElem_mem _)
  simpa using this
end Go.Proofs.Ytdbledfpphkppaa
