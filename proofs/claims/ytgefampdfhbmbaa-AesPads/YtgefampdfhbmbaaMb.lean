/- Texts of one proof, one behind the other. -/
import Derived.RowKit
import Derived.Test.YtgefampdfhbmbaaMa
/- Plain facts on counting: sums, places that are changed about, differences and lines of a table and of its inverse. -/
namespace Go.Proofs.Ytgefampdfhbmbaa
set_option linter.unusedVariables false

def sm (f : Nat → Nat) : Nat → Nat
  | 0 => 0
  | n + 1 => sm f n + f n
def ct (p : Nat → Bool) (n : Nat) : Nat := sm (fun x => (p x).toNat) n
theorem ct_zero (p : Nat → Bool) : ct p 0 = 0 := rfl
theorem ct_succ (p : Nat → Bool) (n : Nat) : ct p (n + 1) = ct p n + (p n).toNat := rfl
theorem sm_congr {f g : Nat → Nat} : ∀ {n : Nat}, (∀ x, x < n → f x = g x) → sm f n = sm g n
  | 0, _ => rfl
  | n + 1, h => by rw [sm, sm, sm_congr (fun x hx => h x (by omega)), h n (by omega)]
theorem ct_congr {p q : Nat → Bool} {n : Nat} (h : ∀ x, x < n → p x = q x) : ct p n = ct q n := sm_congr fun x hx => by rw [h x hx]
theorem sm_zero (n : Nat) : sm (fun _ => 0) n = 0 := by induction n with
  | zero => rfl
  | succ n ih => rw [sm, ih]
theorem sm_one (n : Nat) : sm (fun _ => 1) n = n := by induction n with
  | zero => rfl
  | succ n ih => rw [sm, ih]
theorem sm_add (f g : Nat → Nat) : ∀ n, sm (fun x => f x + g x) n = sm f n + sm g n
  | 0 => rfl
  | n + 1 => by rw [sm, sm, sm, sm_add]; omega
theorem sm_swap (f : Nat → Nat → Nat) (m : Nat) : ∀ n, sm (fun x => sm (fun y => f x y) m) n = sm (fun y => sm (fun x => f x y) n) m
  | 0 => by rw [sm]; simp only [sm]; rw [sm_zero]
  | n + 1 => by
    rw [sm, sm_swap f m n, ← sm_add]
    exact sm_congr fun y _ => rfl
theorem sm_mul (f : Nat → Nat) (c : Nat) : ∀ n, sm (fun x => f x * c) n = sm f n * c
  | 0 => by simp [sm]
  | n + 1 => by rw [sm, sm, sm_mul, Nat.add_mul]
theorem ct_at (a : Nat) : ∀ n, ct (fun x => x == a) n = if a < n then 1 else 0
  | 0 => by simp [ct_zero]
  | n + 1 => by
    rw [ct_succ, ct_at a n]
    by_cases h : n = a
    · subst h; simp
    · have : (n == a) = false := by simpa using h
      rw [this]
      by_cases h2 : a < n
      · simp [h2, show a < n + 1 by omega]
      · simp [h2, show ¬ a < n + 1 by omega]
theorem ct_le (p : Nat → Bool) : ∀ n, ct p n ≤ n
  | 0 => Nat.le_refl _
  | n + 1 => by rw [ct_succ]; have := ct_le p n; have := Bool.toNat_le (p n); omega
theorem ct_not (p : Nat → Bool) : ∀ n, ct (fun x => !p x) n + ct p n = n
  | 0 => rfl
  | n + 1 => by rw [ct_succ, ct_succ]; have := ct_not p n; cases p n <;> simp <;> omega
/- places that are changed about are as many -/
theorem ct_turn (p : Nat → Bool) {f g : Nat → Nat} {n : Nat} (hf : ∀ x, x < n → f x < n) (hg : ∀ x, x < n → g x < n) (hgf : ∀ x, x < n → g (f x) = x) (hfg : ∀ x, x < n → f (g x) = x) :
    ct (fun x => p (f x)) n = ct p n := by
  have h1 : ct (fun x => p (f x)) n = sm (fun x => sm (fun y => (y == f x).toNat * (p y).toNat) n) n := by
    refine sm_congr fun x hx => ?_
    have : sm (fun y => (y == f x).toNat * (p y).toNat) n = sm (fun y => (y == f x).toNat * (p (f x)).toNat) n := by
      refine sm_congr fun y hy => ?_
      by_cases h : y = f x
      · rw [h]
      · have : (y == f x) = false := by simpa using h
        rw [this]; simp
    rw [this, sm_mul, show sm (fun y => (y == f x).toNat) n = ct (fun y => y == f x) n from rfl, ct_at, if_pos (hf x hx), Nat.one_mul]
  rw [h1, sm_swap]
  refine sm_congr fun y hy => ?_
  rw [sm_mul]
  have : sm (fun x => (y == f x).toNat) n = ct (fun x => x == g y) n := by
    refine sm_congr fun x hx => ?_
    congr 1
    rw [Bool.eq_iff_iff]; simp only [beq_iff_eq]
    exact ⟨fun h => by rw [h, hgf x hx], fun h => by rw [h, hfg y hy]⟩
  rw [this, ct_at, if_pos (hg y hy), Nat.one_mul]
/- each place has one answer -/
theorem ct_all (d : Nat → Nat) {m n : Nat} (hd : ∀ x, x < n → d x < m) : sm (fun c => ct (fun x => d x == c) n) m = n := by
  show sm (fun c => sm (fun x => (d x == c).toNat) n) m = n
  rw [sm_swap]
  refine (sm_congr (g := fun _ => 1) fun x hx => ?_).trans (sm_one n)
  have : sm (fun y => (d x == y).toNat) m = ct (fun y => y == d x) m := sm_congr fun y _ => by congr 1; rw [Bool.eq_iff_iff]; simp only [beq_iff_eq]; exact eq_comm
  rw [this, ct_at, if_pos (hd x hx)]

def diffS (t : Nat → Nat) (a c : Nat) : Nat := ct (fun x => t x ^^^ t (x ^^^ a) == c) 256
theorem xor256 {a b : Nat} (ha : a < 256) (hb : b < 256) : a ^^^ b < 256 := Nat.xor_lt_two_pow (n := 8) ha hb
theorem xor_back (a b : Nat) : a ^^^ b ^^^ b = a := by rw [Nat.xor_assoc, Nat.xor_self, Nat.xor_zero]
theorem xor_flip {a b c : Nat} : a ^^^ b = c ↔ b = a ^^^ c := by
  constructor
  · intro h; rw [← h, ← Nat.xor_assoc, Nat.xor_self, Nat.zero_xor]
  · intro h; rw [h, ← Nat.xor_assoc, Nat.xor_self, Nat.zero_xor]
theorem diff_all (t : Nat → Nat) (ht : ∀ x, x < 256 → t x < 256) {a : Nat} (ha : a < 256) : sm (fun c => diffS t a c) 256 = 256 :=
  ct_all (fun x => t x ^^^ t (x ^^^ a)) fun x hx => xor256 (ht x hx) (ht _ (xor256 hx ha))
/- of a table with every byte once the inverse has the same differences, turned round -/
theorem diff_back {t u : Nat → Nat} (ht : ∀ x, x < 256 → t x < 256) (hu : ∀ x, x < 256 → u x < 256) (hut : ∀ x, x < 256 → u (t x) = x) (htu : ∀ x, x < 256 → t (u x) = x) {a c : Nat} (ha : a < 256) (hc : c < 256) :
    diffS t a c = diffS u c a := by
  unfold diffS
  rw [← ct_turn (fun x => u x ^^^ u (x ^^^ c) == a) ht hu hut htu]
  refine ct_congr fun x hx => ?_
  rw [Bool.eq_iff_iff]; simp only [beq_iff_eq]
  rw [hut x hx, xor_flip, xor_flip]
  have h1 := ht x hx; have h2 := xor256 hx ha; have h3 := xor256 h1 hc
  constructor
  · intro h; rw [← h, hut _ h2]
  · intro h; rw [← h, htu _ h3]

/- the parity of a byte's bits -/
def onesTo (v : Nat) : Nat → Nat
  | 0 => 0
  | k + 1 => onesTo v k + (v.testBit k).toNat
def parS (v : Nat) : Nat := onesTo v 8 % 2
def linS (t : Nat → Nat) (a b : Nat) : Nat := ct (fun x => parS (x &&& a) == parS (t x &&& b)) 256
theorem lin_back {t u : Nat → Nat} (ht : ∀ x, x < 256 → t x < 256) (hu : ∀ x, x < 256 → u x < 256) (hut : ∀ x, x < 256 → u (t x) = x) (htu : ∀ x, x < 256 → t (u x) = x) (a b : Nat) :
    linS t a b = linS u b a := by
  unfold linS
  rw [← ct_turn (fun x => parS (x &&& b) == parS (u x &&& a)) ht hu hut htu]
  refine ct_congr fun x hx => ?_
  rw [hut x hx, Bool.eq_iff_iff]; simp only [beq_iff_eq]
  exact eq_comm
theorem ones_le (v : Nat) : ∀ k, onesTo v k ≤ k
  | 0 => Nat.le_refl _
  | k + 1 => by rw [onesTo]; have := ones_le v k; have := Bool.toNat_le (v.testBit k); omega
theorem par_lt (v : Nat) : parS v < 2 := Nat.mod_lt _ (by omega)
end Go.Proofs.Ytgefampdfhbmbaa
/- Plain facts on lines: how many places agree with a line, put together bit by bit; those of the substitution. -/
namespace Go.Proofs.Ytgefampdfhbmbaa
set_option linter.unusedVariables false
def sbL : List Nat := [
  99, 124, 119, 123, 242, 107, 111, 197, 48, 1, 103, 43, 254, 215, 171, 118,
  202, 130, 201, 125, 250, 89, 71, 240, 173, 212, 162, 175, 156, 164, 114, 192,
  183, 253, 147, 38, 54, 63, 247, 204, 52, 165, 229, 241, 113, 216, 49, 21,
  4, 199, 35, 195, 24, 150, 5, 154, 7, 18, 128, 226, 235, 39, 178, 117,
  9, 131, 44, 26, 27, 110, 90, 160, 82, 59, 214, 179, 41, 227, 47, 132,
  83, 209, 0, 237, 32, 252, 177, 91, 106, 203, 190, 57, 74, 76, 88, 207,
  208, 239, 170, 251, 67, 77, 51, 133, 69, 249, 2, 127, 80, 60, 159, 168,
  81, 163, 64, 143, 146, 157, 56, 245, 188, 182, 218, 33, 16, 255, 243, 210,
  205, 12, 19, 236, 95, 151, 68, 23, 196, 167, 126, 61, 100, 93, 25, 115,
  96, 129, 79, 220, 34, 42, 144, 136, 70, 238, 184, 20, 222, 94, 11, 219,
  224, 50, 58, 10, 73, 6, 36, 92, 194, 211, 172, 98, 145, 149, 228, 121,
  231, 200, 55, 109, 141, 213, 78, 169, 108, 86, 244, 234, 101, 122, 174, 8,
  186, 120, 37, 46, 28, 166, 180, 198, 232, 221, 116, 31, 75, 189, 139, 138,
  112, 62, 181, 102, 72, 3, 246, 14, 97, 53, 87, 185, 134, 193, 29, 158,
  225, 248, 152, 17, 105, 217, 142, 148, 155, 30, 135, 233, 206, 85, 40, 223,
  140, 161, 137, 13, 191, 230, 66, 104, 65, 153, 45, 15, 176, 84, 187, 22]
def parK (v : Nat) : Nat :=
  (fun a => (fun b => (b ^^^ b >>> 1) &&& 1) (a ^^^ a >>> 2)) (v ^^^ v >>> 4)
def lw : Nat → List Nat → List Nat
  | 0, l => l.map (fun b => 1 - b)
  | k + 1, l => (fun p q => List.zipWith (fun a b => a + b) p q ++ List.zipWith (fun a b => a + (2 ^ k - b)) p q) (lw k (l.take (2 ^ k))) (lw k (l.drop (2 ^ k)))
theorem lw_len : ∀ (k : Nat) (l : List Nat), l.length = 2 ^ k → (lw k l).length = 2 ^ k
  | 0, l, h => by simp [lw, h]
  | k + 1, l, h => by
    have hp : 2 ^ (k + 1) = 2 ^ k + 2 ^ k := by rw [Nat.pow_succ]; omega
    have h1 := lw_len k (l.take (2 ^ k)) (by rw [List.length_take]; omega)
    have h2 := lw_len k (l.drop (2 ^ k)) (by rw [List.length_drop]; omega)
    simp [lw, h1, h2, hp]
theorem ct_add (p : Nat → Bool) (m : Nat) : ∀ n, ct p (m + n) = ct p m + ct (fun x => p (m + x)) n
  | 0 => rfl
  | n + 1 => by rw [← Nat.add_assoc, ct_succ, ct_succ, ct_add p m n]; omega
theorem ones_congr {u v : Nat} : ∀ k, (∀ i, i < k → u.testBit i = v.testBit i) → onesTo u k = onesTo v k
  | 0, _ => rfl
  | k + 1, h => by rw [onesTo, onesTo, ones_congr k (fun i hi => h i (by omega)), h k (by omega)]
theorem getD_take {l : List Nat} {n x : Nat} (h : x < n) : (l.take n).getD x 0 = l.getD x 0 := by
  rw [List.getD_eq_getElem?_getD, List.getD_eq_getElem?_getD, List.getElem?_take, if_pos h]
theorem getD_drop (l : List Nat) (n x : Nat) : (l.drop n).getD x 0 = l.getD (n + x) 0 := by
  rw [List.getD_eq_getElem?_getD, List.getD_eq_getElem?_getD, List.getElem?_drop]
theorem zip_at (f : Nat → Nat → Nat) {p q : List Nat} {a : Nat} (hp : a < p.length) (hq : a < q.length) : (List.zipWith f p q).getD a 0 = f (p.getD a 0) (q.getD a 0) := by
  rw [List.getD_eq_getElem?_getD, List.getElem?_eq_getElem (by simp; omega), Option.getD_some, List.getElem_zipWith,
    List.getD_eq_getElem?_getD, List.getElem?_eq_getElem hp, List.getD_eq_getElem?_getD, List.getElem?_eq_getElem hq]; rfl
theorem flip2 {m n b : Nat} (hb : b < 2) (hn : n < 2) : ((m + 1) % 2 == b) = !(m % 2 == b) := by
  rw [Bool.eq_iff_iff]; simp only [beq_iff_eq, Bool.not_eq_true', beq_eq_false_iff_ne]; omega
theorem lw_at : ∀ (k : Nat) (l : List Nat), l.length = 2 ^ k → (∀ x, l.getD x 0 < 2) → ∀ a, a < 2 ^ k → (lw k l).getD a 0 = ct (fun x => onesTo (x &&& a) k % 2 == l.getD x 0) (2 ^ k)
  | 0, l, h, hb, a, ha => by
    have ha : a = 0 := by simp at ha; omega
    subst ha
    match l, h with
    | [v], _ =>
      have : v < 2 := by simpa using hb 0
      have : v = 0 ∨ v = 1 := by omega
      rcases this with rfl | rfl <;> rfl
  | k + 1, l, h, hb, a, ha => by
    have hp : 2 ^ (k + 1) = 2 ^ k + 2 ^ k := by rw [Nat.pow_succ]; omega
    have hl1 : (l.take (2 ^ k)).length = 2 ^ k := by rw [List.length_take]; omega
    have hl2 : (l.drop (2 ^ k)).length = 2 ^ k := by rw [List.length_drop]; omega
    have n1 := lw_len k _ hl1
    have n2 := lw_len k _ hl2
    have hb1 : ∀ x, (l.take (2 ^ k)).getD x 0 < 2 := fun x => by
      rw [List.getD_eq_getElem?_getD, List.getElem?_take]; split
      · rw [← List.getD_eq_getElem?_getD]; exact hb x
      · simp
    have hb2 : ∀ x, (l.drop (2 ^ k)).getD x 0 < 2 := fun x => by rw [getD_drop]; exact hb _
    have i1 := lw_at k _ hl1 hb1
    have i2 := lw_at k _ hl2 hb2
    have lo : ∀ {x : Nat}, x < 2 ^ k → x.testBit k = false := fun hx => Nat.testBit_lt_two_pow hx
    rw [hp, ct_add]
    show (List.zipWith (fun a b => a + b) (lw k (l.take (2 ^ k))) (lw k (l.drop (2 ^ k))) ++ List.zipWith (fun a b => a + (2 ^ k - b)) (lw k (l.take (2 ^ k))) (lw k (l.drop (2 ^ k)))).getD a 0 = _
    by_cases hlt : a < 2 ^ k
    · have e : (List.zipWith (fun a b => a + b) (lw k (l.take (2 ^ k))) (lw k (l.drop (2 ^ k))) ++ List.zipWith (fun a b => a + (2 ^ k - b)) (lw k (l.take (2 ^ k))) (lw k (l.drop (2 ^ k)))).getD a 0
          = (lw k (l.take (2 ^ k))).getD a 0 + (lw k (l.drop (2 ^ k))).getD a 0 := by
        rw [List.getD_eq_getElem?_getD, List.getElem?_append_left (by simp; omega), ← List.getD_eq_getElem?_getD, zip_at _ (by omega) (by omega)]
      rw [e, i1 a hlt, i2 a hlt]
      congr 1
      · refine ct_congr fun x hx => ?_
        rw [getD_take hx, onesTo, Nat.testBit_and, lo hx]; rfl
      · refine ct_congr fun x hx => ?_
        rw [getD_drop, onesTo, Nat.testBit_and, lo hlt, Bool.and_false]
        rw [ones_congr (u := 2 ^ k + x &&& a) (v := x &&& a) k fun i hi => by rw [Nat.testBit_and, Nat.testBit_and, Nat.testBit_two_pow_add_gt hi]]
        rfl
    · obtain ⟨c, rfl⟩ : ∃ c, a = 2 ^ k + c := ⟨a - 2 ^ k, by omega⟩
      have hc : c < 2 ^ k := by omega
      have e : (List.zipWith (fun a b => a + b) (lw k (l.take (2 ^ k))) (lw k (l.drop (2 ^ k))) ++ List.zipWith (fun a b => a + (2 ^ k - b)) (lw k (l.take (2 ^ k))) (lw k (l.drop (2 ^ k)))).getD (2 ^ k + c) 0
          = (lw k (l.take (2 ^ k))).getD c 0 + (2 ^ k - (lw k (l.drop (2 ^ k))).getD c 0) := by
        rw [List.getD_eq_getElem?_getD, List.getElem?_append_right (by simp; omega)]
        rw [show 2 ^ k + c - (List.zipWith (fun a b => a + b) (lw k (l.take (2 ^ k))) (lw k (l.drop (2 ^ k)))).length = c from by simp; omega]
        rw [← List.getD_eq_getElem?_getD, zip_at _ (by omega) (by omega)]
      rw [e, i1 c hc, i2 c hc]
      congr 1
      · refine ct_congr fun x hx => ?_
        rw [getD_take hx, onesTo, Nat.testBit_and, lo hx]
        rw [ones_congr (u := x &&& (2 ^ k + c)) (v := x &&& c) k fun i hi => by rw [Nat.testBit_and, Nat.testBit_and, Nat.testBit_two_pow_add_gt hi]]
        rfl
      · rw [show 2 ^ k - ct (fun x => onesTo (x &&& c) k % 2 == (l.drop (2 ^ k)).getD x 0) (2 ^ k) = ct (fun x => !(onesTo (x &&& c) k % 2 == (l.drop (2 ^ k)).getD x 0)) (2 ^ k) from by have := ct_not (fun x => onesTo (x &&& c) k % 2 == (l.drop (2 ^ k)).getD x 0) (2 ^ k); omega]
        refine ct_congr fun x hx => ?_
        rw [getD_drop, onesTo, Nat.testBit_and, Nat.testBit_two_pow_add_eq, Nat.testBit_two_pow_add_eq, lo hx, lo hc]
        rw [ones_congr (u := 2 ^ k + x &&& (2 ^ k + c)) (v := x &&& c) k fun i hi => by rw [Nat.testBit_and, Nat.testBit_and, Nat.testBit_two_pow_add_gt hi, Nat.testBit_two_pow_add_gt hi]]
        exact (flip2 (n := 0) (hb _) (by omega)).symm
theorem par_all : ((List.range 256).all fun v => onesTo v 8 % 2 == parK v) = true := by decide +kernel
theorem par_k {v : Nat} (h : v < 256) : parS v = parK v := by
  have := List.all_eq_true.1 par_all v (by simpa using h)
  simpa [parS] using this
theorem sbL_len : sbL.length = 256 := by decide +kernel
theorem sbL_small : (sbL.all fun s => Nat.blt s 256) = true := by decide +kernel
def sbN (x : Nat) : Nat := sbL.getD x 0
theorem sbN_lt (x : Nat) : sbN x < 256 := by
  unfold sbN; rw [List.getD_eq_getElem?_getD]
  cases h : sbL[x]? with
  | none => simp
  | some v => have := List.all_eq_true.1 sbL_small v (List.mem_of_getElem? h); simpa using this
theorem parK_lt (v : Nat) : parK v < 2 := by
  unfold parK; exact Nat.lt_of_le_of_lt Nat.and_le_right (by omega)
theorem lin_lw {b a : Nat} (hb : b < 256) (ha : a < 256) : linS sbN a b = (lw 8 (sbL.map fun s => parK (s &&& b))).getD a 0 := by
  have hd : ∀ x, (sbL.map fun s => parK (s &&& b)).getD x 0 = if x < 256 then parS (sbN x &&& b) else 0 := fun x => by
    rw [List.getD_eq_getElem?_getD, List.getElem?_map]
    split
    · rename_i h
      rw [List.getElem?_eq_getElem (by rw [sbL_len]; exact h)]
      show parK (sbL[x]'_ &&& b) = _
      rw [par_k (Nat.lt_of_le_of_lt Nat.and_le_right hb)]
      unfold sbN; rw [List.getD_eq_getElem?_getD, List.getElem?_eq_getElem (by rw [sbL_len]; exact h)]; rfl
    · rename_i h
      rw [List.getElem?_eq_none (by rw [sbL_len]; omega)]; rfl
  rw [lw_at 8 _ (by rw [List.length_map, sbL_len]) (fun x => by rw [hd]; split; exact par_lt _; omega) a ha]
  unfold linS
  refine ct_congr fun x hx => ?_
  rw [hd, if_pos hx]; rfl
def linOk (b : Nat) : Bool := (lw 8 (sbL.map fun s => parK (s &&& b))).all fun e => Nat.ble 112 e && Nat.ble e 144
theorem lin_of_ok {b a : Nat} (hb : b < 256) (ha : a < 256) (h : linOk b = true) : 112 ≤ linS sbN a b ∧ linS sbN a b ≤ 144 := by
  rw [lin_lw hb ha]
  have hl := lw_len 8 (sbL.map fun s => parK (s &&& b)) (by rw [List.length_map, sbL_len])
  have := List.all_eq_true.1 h ((lw 8 (sbL.map fun s => parK (s &&& b))).getD a 0) (by
    rw [List.getD_eq_getElem?_getD, List.getElem?_eq_getElem (by rw [hl]; exact ha), Option.getD_some]; exact List.getElem_mem _)
  simpa using this
end Go.Proofs.Ytgefampdfhbmbaa
/- Plain facts of the substitution: what it is, every byte once, none left or turned over; no difference goes through more than four times; the degree of each bit. -/
namespace Go.Proofs.Ytgefampdfhbmbaa
set_option linter.unusedVariables false
def invL : List UInt8 := [
  0, 1, 141, 246, 203, 82, 123, 209, 232, 79, 41, 192, 176, 225, 229, 199,
  116, 180, 170, 75, 153, 43, 96, 95, 88, 63, 253, 204, 255, 64, 238, 178,
  58, 110, 90, 241, 85, 77, 168, 201, 193, 10, 152, 21, 48, 68, 162, 194,
  44, 69, 146, 108, 243, 57, 102, 66, 242, 53, 32, 111, 119, 187, 89, 25,
  29, 254, 55, 103, 45, 49, 245, 105, 167, 100, 171, 19, 84, 37, 233, 9,
  237, 92, 5, 202, 76, 36, 135, 191, 24, 62, 34, 240, 81, 236, 97, 23,
  22, 94, 175, 211, 73, 166, 54, 67, 244, 71, 145, 223, 51, 147, 33, 59,
  121, 183, 151, 133, 16, 181, 186, 60, 182, 112, 208, 6, 161, 250, 129, 130,
  131, 126, 127, 128, 150, 115, 190, 86, 155, 158, 149, 217, 247, 2, 185, 164,
  222, 106, 50, 109, 216, 138, 132, 114, 42, 20, 159, 136, 249, 220, 137, 154,
  251, 124, 46, 195, 143, 184, 101, 72, 38, 200, 18, 74, 206, 231, 210, 98,
  12, 224, 31, 239, 17, 117, 120, 113, 165, 142, 118, 61, 189, 188, 134, 87,
  11, 40, 47, 163, 218, 212, 228, 15, 169, 39, 83, 4, 27, 252, 172, 230,
  122, 7, 174, 99, 197, 219, 226, 234, 148, 139, 196, 213, 157, 248, 144, 107,
  177, 13, 214, 235, 198, 14, 207, 173, 8, 78, 215, 227, 93, 80, 30, 179,
  91, 35, 56, 52, 104, 70, 3, 140, 221, 156, 125, 160, 205, 26, 65, 28]
def ivs (b : UInt8) : UInt8 := invL.getD b.toNat 0
def rotl (b : UInt8) (k : Nat) : UInt8 := UInt8.ofNat (b.toNat * 2 ^ k + b.toNat / 2 ^ (8 - k))
/- the exclusive or of a byte and of the byte turned left by 1 to 4 bits -/
def mixL (b : UInt8) : UInt8 := b ^^^ rotl b 1 ^^^ rotl b 2 ^^^ rotl b 3 ^^^ rotl b 4
def affS (b : UInt8) : UInt8 := 99 ^^^ mixL b
def subS (b : UInt8) : UInt8 := affS (inv 27 b)
theorem u8_all {p : UInt8 → Bool} (h : ((List.range 256).all fun x => p (UInt8.ofNat x)) = true) (b : UInt8) : p b = true := by
  have := List.all_eq_true.1 h b.toNat (by have := b.toNat_lt; simp; omega)
  simpa using this
theorem gen_b : ordS 27 3 = 255 := by decide +kernel
def ivP (b : UInt8) : Bool := b == 0 || bm 27 b (ivs b) == 1
theorem ivs_ok : ((List.range 256).all fun x => ivP (UInt8.ofNat x)) = true := by decide +kernel
theorem pw_zero' (P : UInt8) (n : Nat) : pw P 0 (n + 1) = 0 := by rw [pw, bm_zero]
theorem inv_ivs (b : UInt8) : inv 27 b = ivs b := by
  by_cases h : b = 0
  · subst h; rw [show inv 27 0 = 0 from pw_zero' 27 253]; decide +kernel
  · have h1 := u8_all (p := ivP) ivs_ok b
    unfold ivP at h1
    have h2 : bm 27 b (ivs b) = 1 := by
      rcases Bool.or_eq_true_iff.1 h1 with h1 | h1
      · exact absurd (eq_of_beq h1) h
      · exact eq_of_beq h1
    have h3 := bm_inv gen_b h
    rw [← bm_one 27 (inv 27 b), ← h2, ← bm_assoc, bm_comm 27 (inv 27 b) b, h3, one_bm]
def subP (b : UInt8) : Bool := (affS (ivs b)).toNat == sbN b.toNat
theorem sub_all : ((List.range 256).all fun x => subP (UInt8.ofNat x)) = true := by decide +kernel
theorem sub_sb (b : UInt8) : (subS b).toNat = sbN b.toNat := by
  have := u8_all (p := subP) sub_all b
  unfold subS; rw [inv_ivs]; exact eq_of_beq this
/- linear, and it has an inverse -/
def unL : List UInt8 := [
  0, 74, 148, 222, 41, 99, 189, 247, 82, 24, 198, 140, 123, 49, 239, 165,
  164, 238, 48, 122, 141, 199, 25, 83, 246, 188, 98, 40, 223, 149, 75, 1,
  73, 3, 221, 151, 96, 42, 244, 190, 27, 81, 143, 197, 50, 120, 166, 236,
  237, 167, 121, 51, 196, 142, 80, 26, 191, 245, 43, 97, 150, 220, 2, 72,
  146, 216, 6, 76, 187, 241, 47, 101, 192, 138, 84, 30, 233, 163, 125, 55,
  54, 124, 162, 232, 31, 85, 139, 193, 100, 46, 240, 186, 77, 7, 217, 147,
  219, 145, 79, 5, 242, 184, 102, 44, 137, 195, 29, 87, 160, 234, 52, 126,
  127, 53, 235, 161, 86, 28, 194, 136, 45, 103, 185, 243, 4, 78, 144, 218,
  37, 111, 177, 251, 12, 70, 152, 210, 119, 61, 227, 169, 94, 20, 202, 128,
  129, 203, 21, 95, 168, 226, 60, 118, 211, 153, 71, 13, 250, 176, 110, 36,
  108, 38, 248, 178, 69, 15, 209, 155, 62, 116, 170, 224, 23, 93, 131, 201,
  200, 130, 92, 22, 225, 171, 117, 63, 154, 208, 14, 68, 179, 249, 39, 109,
  183, 253, 35, 105, 158, 212, 10, 64, 229, 175, 113, 59, 204, 134, 88, 18,
  19, 89, 135, 205, 58, 112, 174, 228, 65, 11, 213, 159, 104, 34, 252, 182,
  254, 180, 106, 32, 215, 157, 67, 9, 172, 230, 56, 114, 133, 207, 17, 91,
  90, 16, 206, 132, 115, 57, 231, 173, 8, 66, 156, 214, 33, 107, 181, 255]
def unm (b : UInt8) : UInt8 := unL.getD b.toNat 0
def unP (b : UInt8) : Bool := unm (mixL b) == b && mixL (unm b) == b
theorem unm_all : ((List.range 256).all fun x => unP (UInt8.ofNat x)) = true := by decide +kernel
theorem unm_mix (b : UInt8) : unm (mixL b) = b := eq_of_beq (Bool.and_eq_true_iff.1 (u8_all (p := unP) unm_all b)).1
theorem mix_unm (b : UInt8) : mixL (unm b) = b := eq_of_beq (Bool.and_eq_true_iff.1 (u8_all (p := unP) unm_all b)).2
def linB (c : Nat → Nat) (v : Nat) : Nat → Nat
  | 0 => 0
  | k + 1 => linB c v k ^^^ sel (v.testBit k) (c k)
theorem linB_xor (c : Nat → Nat) (u v : Nat) : ∀ k, linB c (u ^^^ v) k = linB c u k ^^^ linB c v k
  | 0 => by simp [linB]
  | k + 1 => by rw [linB, linB, linB, linB_xor c u v k, Nat.testBit_xor, sel_xor, xor4]
def mlP (b : UInt8) : Bool := (mixL b).toNat == linB (fun i => (mixL (UInt8.ofNat (2 ^ i))).toNat) b.toNat 8
theorem mix_lin_all : ((List.range 256).all fun x => mlP (UInt8.ofNat x)) = true := by decide +kernel
theorem mix_xor (a b : UInt8) : mixL (a ^^^ b) = mixL a ^^^ mixL b := by
  have h : ∀ b, (mixL b).toNat = linB (fun i => (mixL (UInt8.ofNat (2 ^ i))).toNat) b.toNat 8 := fun b => eq_of_beq (u8_all (p := mlP) mix_lin_all b)
  apply UInt8.toNat.inj
  rw [UInt8.toNat_xor, h, h a, h b, UInt8.toNat_xor, linB_xor]
theorem u8_cancel (a b c : UInt8) : (a ^^^ b) ^^^ (a ^^^ c) = b ^^^ c := by
  rw [UInt8.xor_comm a b, UInt8.xor_assoc, ← UInt8.xor_assoc a a c, UInt8.xor_self, UInt8.zero_xor]
theorem sub_xor (a b : UInt8) : subS a ^^^ subS b = mixL (inv 27 a ^^^ inv 27 b) := by
  unfold subS affS; rw [u8_cancel, mix_xor]
theorem inv_prod (a b : UInt8) : inv 27 (bm 27 a b) = bm 27 (inv 27 a) (inv 27 b) := pw_prod 27 a b 254
theorem inv_bm {a : UInt8} (h : a ≠ 0) : bm 27 (inv 27 a) a = 1 := by rw [bm_comm]; exact bm_inv gen_b h
/- of a byte's difference 1: how often -/
def rowK (d : Nat) : Nat := ct (fun x => (ivs (UInt8.ofNat x)).toNat ^^^ (ivs (UInt8.ofNat (x ^^^ 1))).toNat == d) 256
def rowL : List Nat := (List.range 256).map fun x => (ivs (UInt8.ofNat x)).toNat ^^^ (ivs (UInt8.ofNat (x ^^^ 1))).toNat
def cntL (d : Nat) : List Nat → Nat → Nat
  | [], n => n
  | x :: l, n => cntL d l (cond (Nat.beq x d) (n + 1) n)
theorem cntL_add (d : Nat) : ∀ l n, cntL d l n = n + cntL d l 0
  | [], n => rfl
  | x :: l, n => by
    rw [cntL, cntL, cntL_add d l, cntL_add d l (cond _ _ _)]
    cases Nat.beq x d <;> simp <;> omega
theorem cntL_app (d : Nat) : ∀ l m n, cntL d (l ++ m) n = cntL d m (cntL d l n)
  | [], m, n => rfl
  | x :: l, m, n => by rw [List.cons_append, cntL, cntL, cntL_app]
theorem nat_beq (a b : Nat) : (a == b) = Nat.beq a b := by
  cases h : Nat.beq a b with
  | true => have := Nat.eq_of_beq_eq_true h; simp [this]
  | false => have := Nat.ne_of_beq_eq_false h; simpa using this
theorem cntL_ct (d : Nat) (f : Nat → Nat) : ∀ n, cntL d ((List.range n).map f) 0 = ct (fun x => f x == d) n
  | 0 => rfl
  | n + 1 => by
    rw [List.range_succ, List.map_append, cntL_app, cntL_ct d f n, ct_succ, List.map_singleton, cntL, cntL]
    rw [nat_beq]
    cases Nat.beq (f n) d <;> simp
theorem row_lit : rowL = [1, 1, 123, 123, 153, 153, 170, 170, 167, 167, 233, 233, 81, 81, 34, 34, 192, 192, 225, 225, 178, 178, 63, 63, 103, 103, 49, 49, 191, 191, 92, 92, 84, 84, 171, 171, 24, 24, 97, 97, 203, 203, 141, 141, 116, 116, 96, 96, 105, 105, 254, 254, 202, 202, 36, 36, 199, 199, 79, 79, 204, 204, 64, 64, 227, 227, 80, 80, 28, 28, 156, 156, 195, 195, 184, 184, 113, 113, 224, 224, 177, 177, 207, 207, 104, 104, 56, 56, 38, 38, 210, 210, 189, 189, 118, 118, 72, 72, 124, 124, 239, 239, 117, 117, 179, 179, 78, 78, 160, 160, 26, 26, 206, 206, 18, 18, 165, 165, 134, 134, 198, 198, 214, 214, 91, 91, 3, 3, 253, 253, 255, 255, 229, 229, 232, 232, 5, 5, 76, 76, 245, 245, 29, 29, 180, 180, 95, 95, 82, 82, 246, 246, 62, 62, 23, 23, 37, 37, 19, 19, 135, 135, 237, 237, 55, 55, 45, 45, 238, 238, 88, 88, 41, 41, 176, 176, 236, 236, 240, 240, 100, 100, 9, 9, 43, 43, 75, 75, 1, 1, 209, 209, 35, 35, 140, 140, 14, 14, 235, 235, 142, 142, 87, 87, 231, 231, 74, 74, 125, 125, 205, 205, 30, 30, 8, 8, 31, 31, 17, 17, 101, 101, 251, 251, 188, 188, 61, 61, 200, 200, 98, 98, 70, 70, 52, 52, 13, 13, 173, 173, 120, 120, 12, 12, 46, 46, 143, 143, 65, 65, 221, 221, 215, 215, 93, 93] := by decide +kernel
theorem row_all : ((List.range 256).all fun d => (fun n => Nat.beq n 0 || Nat.beq n 2 || Nat.beq n 4) (cntL d [1, 1, 123, 123, 153, 153, 170, 170, 167, 167, 233, 233, 81, 81, 34, 34, 192, 192, 225, 225, 178, 178, 63, 63, 103, 103, 49, 49, 191, 191, 92, 92, 84, 84, 171, 171, 24, 24, 97, 97, 203, 203, 141, 141, 116, 116, 96, 96, 105, 105, 254, 254, 202, 202, 36, 36, 199, 199, 79, 79, 204, 204, 64, 64, 227, 227, 80, 80, 28, 28, 156, 156, 195, 195, 184, 184, 113, 113, 224, 224, 177, 177, 207, 207, 104, 104, 56, 56, 38, 38, 210, 210, 189, 189, 118, 118, 72, 72, 124, 124, 239, 239, 117, 117, 179, 179, 78, 78, 160, 160, 26, 26, 206, 206, 18, 18, 165, 165, 134, 134, 198, 198, 214, 214, 91, 91, 3, 3, 253, 253, 255, 255, 229, 229, 232, 232, 5, 5, 76, 76, 245, 245, 29, 29, 180, 180, 95, 95, 82, 82, 246, 246, 62, 62, 23, 23, 37, 37, 19, 19, 135, 135, 237, 237, 55, 55, 45, 45, 238, 238, 88, 88, 41, 41, 176, 176, 236, 236, 240, 240, 100, 100, 9, 9, 43, 43, 75, 75, 1, 1, 209, 209, 35, 35, 140, 140, 14, 14, 235, 235, 142, 142, 87, 87, 231, 231, 74, 74, 125, 125, 205, 205, 30, 30, 8, 8, 31, 31, 17, 17, 101, 101, 251, 251, 188, 188, 61, 61, 200, 200, 98, 98, 70, 70, 52, 52, 13, 13, 173, 173, 120, 120, 12, 12, 46, 46, 143, 143, 65, 65, 221, 221, 215, 215, 93, 93] 0)) = true := by decide +kernel
theorem row_ok {d : Nat} (h : d < 256) : rowK d = 0 ∨ rowK d = 2 ∨ rowK d = 4 := by
  have := List.all_eq_true.1 row_all d (by simpa using h)
  rw [← row_lit] at this
  unfold rowL at this
  rw [cntL_ct] at this
  rcases Bool.or_eq_true_iff.1 this with this | this
  · rcases Bool.or_eq_true_iff.1 this with this | this
    · exact Or.inl (Nat.eq_of_beq_eq_true this)
    · exact Or.inr (Or.inl (Nat.eq_of_beq_eq_true this))
  · exact Or.inr (Or.inr (Nat.eq_of_beq_eq_true this))
theorem u8_nat {x : Nat} (h : x < 256) : (UInt8.ofNat x).toNat = x := by rw [UInt8.toNat_ofNat']; exact Nat.mod_eq_of_lt h
theorem ofNat_xor {x a : Nat} (hx : x < 256) (ha : a < 256) : UInt8.ofNat (x ^^^ a) = UInt8.ofNat x ^^^ UInt8.ofNat a := by
  apply UInt8.toNat.inj; rw [UInt8.toNat_xor, u8_nat (xor256 hx ha), u8_nat hx, u8_nat ha]
/- of any difference: as of the difference 1 -/
theorem diff_row {a c : UInt8} (ha : a ≠ 0) : diffS sbN a.toNat c.toNat = rowK (bm 27 a (unm c)).toNat := by
  have hal := a.toNat_lt
  have hf : ∀ x, x < 256 → (bm 27 a (UInt8.ofNat x)).toNat < 256 := fun x _ => (bm 27 a (UInt8.ofNat x)).toNat_lt
  have hg : ∀ x, x < 256 → (bm 27 (inv 27 a) (UInt8.ofNat x)).toNat < 256 := fun x _ => (bm 27 (inv 27 a) (UInt8.ofNat x)).toNat_lt
  have e1 : ∀ x, x < 256 → (bm 27 (inv 27 a) (UInt8.ofNat (bm 27 a (UInt8.ofNat x)).toNat)).toNat = x := fun x hx => by
    rw [UInt8.ofNat_toNat, ← bm_assoc, inv_bm ha, one_bm, u8_nat hx]
  have e2 : ∀ x, x < 256 → (bm 27 a (UInt8.ofNat (bm 27 (inv 27 a) (UInt8.ofNat x)).toNat)).toNat = x := fun x hx => by
    rw [UInt8.ofNat_toNat, ← bm_assoc, bm_inv gen_b ha, one_bm, u8_nat hx]
  unfold diffS
  rw [← ct_turn _ hf hg e1 e2]
  unfold rowK
  refine ct_congr fun x hx => ?_
  have h1 : (bm 27 a (UInt8.ofNat x)).toNat ^^^ a.toNat = (bm 27 a (UInt8.ofNat (x ^^^ 1))).toNat := by
    rw [ofNat_xor hx (by omega), bm_xor', show (UInt8.ofNat 1) = 1 from rfl, bm_one, UInt8.toNat_xor]
  rw [h1, ← sub_sb, ← sub_sb, ← UInt8.toNat_xor, sub_xor, inv_prod, inv_prod, ← bm_xor', ← inv_ivs, ← inv_ivs, ← UInt8.toNat_xor]
  generalize inv 27 (UInt8.ofNat x) ^^^ inv 27 (UInt8.ofNat (x ^^^ 1)) = z
  rw [Bool.eq_iff_iff]; simp only [beq_iff_eq]
  constructor
  · intro h
    have h := UInt8.toNat.inj h
    rw [← h, unm_mix, ← bm_assoc, bm_inv gen_b ha, one_bm]
  · intro h
    have h := UInt8.toNat.inj h
    rw [h, ← bm_assoc, inv_bm ha, one_bm, mix_unm]
theorem diff_sb {a c : Nat} (h0 : a ≠ 0) (ha : a < 256) (hc : c < 256) : diffS sbN a c = 0 ∨ diffS sbN a c = 2 ∨ diffS sbN a c = 4 := by
  have h := diff_row (a := UInt8.ofNat a) (c := UInt8.ofNat c) (fun h => h0 (by have := congrArg UInt8.toNat h; rw [u8_nat ha] at this; exact this))
  rw [u8_nat ha, u8_nat hc] at h
  rw [h]; exact row_ok (bm 27 _ _).toNat_lt
end Go.Proofs.Ytgefampdfhbmbaa
/- What the document's Affine, Inverse, Sub and Unsub answer. -/
namespace Go.Proofs.Ytgefampdfhbmbaa
open Go.RowKit
set_option linter.unusedVariables false

def rolS (b k : Nat) : Nat := b * 2 ^ k % 256 ||| b / 2 ^ (8 - k)
def affTo (b : Nat) : Nat → Nat
  | 0 => 99
  | k + 1 => affTo b k ^^^ rolS b k
theorem rol_lt {b k : Nat} (hb : b < 256) : rolS b k < 256 := Nat.or_lt_two_pow (n := 8) (Nat.mod_lt _ (by omega)) (Nat.lt_of_le_of_lt (Nat.div_le_self _ _) hb)
theorem affTo_lt {b : Nat} (hb : b < 256) : ∀ k, affTo b k < 256
  | 0 => by show 99 < 256; decide
  | k + 1 => xor256 (affTo_lt hb k) (rol_lt hb)
def affP (b : UInt8) : Bool := affTo b.toNat 5 == (affS b).toNat
theorem aff_all : ((List.range 256).all fun x => affP (UInt8.ofNat x)) = true := by decide +kernel
theorem aff_to (b : UInt8) : affTo b.toNat 5 = (affS b).toNat := eq_of_beq (u8_all (p := affP) aff_all b)
theorem rol_walk {b k : Nat} (hb : b < 256) : bits .or .u8 ((b : Int) * 2 ^ k % 256) ((b : Int) / 2 ^ (8 - k)) = ((rolS b k : Nat) : Int) := by
  have h1 : (b : Int) * 2 ^ k % 256 = ((b * 2 ^ k % 256 : Nat) : Int) := by
    rw [show (b : Int) * 2 ^ k = ((b * 2 ^ k : Nat) : Int) by simp]
    simp
  have h2 : (b : Int) / 2 ^ (8 - k) = ((b / 2 ^ (8 - k) : Nat) : Int) := by simp
  rw [h1, h2, u8_or_nat _ _ (Nat.mod_lt _ (by omega)) (Nat.lt_of_le_of_lt (Nat.div_le_self _ _) hb)]
  rfl

set_option maxRecDepth 100000 in
set_option maxHeartbeats 400000 in
theorem refAffine_any (b : UInt8) (w : World) : Calls Try.prog 85 #[.int .u8 (b.toNat : Int)] w fun e w' => e = .returned (.int .u8 ((affS b).toNat : Int)) ∧ w' = w := by
  have hb : b.toNat < 256 := b.toNat_lt
  have HR := hidD (aff_to b)
  generalize (affS b).toNat = R at *
  generalize b.toNat = B at *
  go_enter Try.func85, Try.ntmps85
  go_wp2_with fail
  go_loopw [3, 4] (fun x i wr => ∃ k : Nat, k ≤ 5 ∧ i = .int .i64 k ∧ x = .int .u8 ((affTo B k : Nat) : Int) ∧ wr = w) (fun _ i _ => 5 - (intOf i).toNat)
  case atStart => exact ⟨0, Nat.zero_le _, rfl, rfl, rfl⟩
  case round =>
    obtain ⟨k, hk, rfl, rfl, rfl⟩ := hrel
    by_cases hlt : k < 5
    · have hlti : (k : Int) < 5 := by omega
      have hk8 : (8 : Int) - k = ((8 - k : Nat) : Int) := by omega
      have hd : 3 ≤ 8 - k := by omega
      have hd2 : 8 - k ≤ 8 := by omega
      have hX := affTo_lt hb k
      have HS : Hid (bits .xor .u8 ((affTo B k : Nat) : Int) (bits .or .u8 ((B : Int) * 2 ^ k % 256) ((B : Int) / 2 ^ (8 - k))) = ((affTo B (k + 1) : Nat) : Int)) := by
        show _ = _; rw [rol_walk hb, u8_xor_nat _ _ hX (rol_lt hb)]; rfl
      generalize ((affTo B k : Nat) : Int) = X at *
      generalize 8 - k = d at *
      go_wp2_with fail
      go_roundw
      case rel => exact ⟨k + 1, by omega, by go_num, by rw [HS.out], trivial⟩
      case measure => simp [intOf]; omega
    · obtain rfl : k = 5 := by omega
      rw [HR.out]
      go_wp2_with fail
      go_ret
      exact ⟨rfl, rfl⟩

set_option maxRecDepth 100000 in
set_option maxHeartbeats 400000 in
theorem refInverse_any (b : UInt8) (w : World) : Calls Try.prog 86 #[.int .u8 (b.toNat : Int)] w fun e w' => e = .returned (.int .u8 ((inv 27 b).toNat : Int)) ∧ Below w.heap.size w w' := by
  have HP : Hid (∀ w', RfAt w' w.heap.size 27 3 → Calls Try.prog 90 #[.pointer (some ⟨w.heap.size, 0, none⟩), .int .u8 (b.toNat : Int), .int .i64 254] w' fun e w2 => e = .returned (.int .u8 ((inv 27 b).toNat : Int)) ∧ w2 = w') := fun w' h => power_any b 254 (by omega) w' h
  have HN := hidD (fun t => RfAt.new w 27 3 283 rfl t)
  generalize ((inv 27 b).toNat : Int) = R at *
  go_enter Try.func86, Try.ntmps86
  go_wp2_with (go_at_call 90; refine (HP.out _ (HN.out _)).mono ?_; rintro e w2 ⟨rfl, rfl⟩)
  go_ret
  exact ⟨rfl, (Below.refl _ _).alloc (Nat.le_refl _) _⟩
set_option maxRecDepth 100000 in
set_option maxHeartbeats 400000 in
theorem refSub_any (b : UInt8) (w : World) : Calls Try.prog 75 #[.int .u8 (b.toNat : Int)] w fun e w' => e = .returned (.int .u8 ((subS b).toNat : Int)) ∧ Below w.heap.size w w' := by
  have HI := hidD (fun w => refInverse_any b w)
  have HA := hidD (fun w => refAffine_any (inv 27 b) w)
  rw [show affS (inv 27 b) = subS b from rfl] at HA
  generalize ((inv 27 b).toNat : Int) = X at *
  generalize ((subS b).toNat : Int) = R at *
  go_enter Try.func75, Try.ntmps75
  go_wp2_with (first | (go_at_call 86; refine (HI.out _).mono ?_; rintro e w2 ⟨rfl, hb2⟩; clear HI) | (go_at_call 85; refine (HA.out _).mono ?_; rintro e w3 ⟨rfl, rfl⟩))
  go_ret
  exact ⟨rfl, hb2⟩
end Go.Proofs.Ytgefampdfhbmbaa
