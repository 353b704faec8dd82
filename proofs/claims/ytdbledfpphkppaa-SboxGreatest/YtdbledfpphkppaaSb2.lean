/- Plain facts of the substitution: the greatest difference, the greatest line, the degrees, the inverse. -/
import Derived.Test.YtdbledfpphkppaaSbx
import Derived.Test.YtdbledfpphkppaaLns
namespace Go.Proofs.Ytdbledfpphkppaa
set_option linter.unusedVariables false
def mx (f : Nat → Nat) : Nat → Nat
  | 0 => 0
  | n + 1 => Nat.max (mx f n) (f n)
theorem mx_le {f : Nat → Nat} {B : Nat} : ∀ {n : Nat}, (∀ x, x < n → f x ≤ B) → mx f n ≤ B
  | 0, _ => Nat.zero_le _
  | n + 1, h => Nat.max_le.2 ⟨mx_le fun x hx => h x (by omega), h n (by omega)⟩
theorem le_mx {f : Nat → Nat} : ∀ {n x : Nat}, x < n → f x ≤ mx f n
  | 0, _, h => absurd h (by omega)
  | n + 1, x, h => by
    by_cases hx : x = n
    · subst hx; exact Nat.le_max_right _ _
    · exact Nat.le_trans (le_mx (show x < n by omega)) (Nat.le_max_left _ _)
theorem mx_congr {f g : Nat → Nat} : ∀ {n : Nat}, (∀ x, x < n → f x = g x) → mx f n = mx g n
  | 0, _ => rfl
  | n + 1, h => by rw [mx, mx, mx_congr (fun x hx => h x (by omega)), h n (by omega)]
def uniS (t : Nat → Nat) : Nat := mx (fun a => mx (fun c => diffS t (a + 1) c) 256) 255
def offS (t : Nat → Nat) (a b : Nat) : Nat := ((linS t a b : Int) - 128).natAbs
def strS (t : Nat → Nat) : Nat := mx (fun b => mx (fun a => offS t a (b + 1)) 256) 255
def anfS (t : Nat → Nat) (bit m : Nat) : Nat := ct (fun x => (x &&& m == x) && (t x).testBit bit) 256 % 2
def degS (t : Nat → Nat) (bit : Nat) : Nat := mx (fun m => if anfS t bit m = 1 then onesTo m 8 else 0) 256
theorem uni_at : diffS sbN 1 31 = 4 := by decide +kernel
theorem uni_sb : uniS sbN = 4 := by
  apply Nat.le_antisymm
  · refine mx_le fun a ha => mx_le fun c hc => ?_
    have := diff_sb (a := a + 1) (c := c) (by omega) (by omega) hc; omega
  · have h1 : diffS sbN (0 + 1) 31 ≤ mx (fun c => diffS sbN (0 + 1) c) 256 := le_mx (f := fun c => diffS sbN (0 + 1) c) (by omega)
    have h2 : mx (fun c => diffS sbN (0 + 1) c) 256 ≤ uniS sbN := le_mx (f := fun a => mx (fun c => diffS sbN (a + 1) c) 256) (by omega)
    have h3 : diffS sbN (0 + 1) 31 = 4 := uni_at
    omega
theorem str_at : linS sbN 45 1 = 112 := by decide +kernel
theorem off_sb {a b : Nat} (h0 : b ≠ 0) (ha : a < 256) (hb : b < 256) : offS sbN a b ≤ 16 := by
  have := lin_sb h0 ha hb; unfold offS; omega
theorem str_sb : strS sbN = 16 := by
  apply Nat.le_antisymm
  · exact mx_le fun b hb => mx_le fun a ha => off_sb (by omega) ha (by omega)
  · have h1 : offS sbN 45 (0 + 1) ≤ mx (fun a => offS sbN a (0 + 1)) 256 := le_mx (f := fun a => offS sbN a (0 + 1)) (by omega)
    have h2 : mx (fun a => offS sbN a (0 + 1)) 256 ≤ strS sbN := le_mx (f := fun b => mx (fun a => offS sbN a (b + 1)) 256) (by omega)
    have h3 : linS sbN 45 (0 + 1) = 112 := str_at
    unfold offS at *; omega
def degW : List Nat := [253, 251, 254, 253, 253, 247, 251, 253]
theorem deg_at : ((List.range 8).all fun i => anfS sbN i 255 == 0 && (anfS sbN i (degW.getD i 0) == 1 && (Nat.blt (degW.getD i 0) 256 && onesTo (degW.getD i 0) 8 == 7))) = true := by decide +kernel
theorem ones_top : ((List.range 255).all fun m => Nat.ble (onesTo m 8) 7) = true := by decide +kernel
theorem deg_sb {bit : Nat} (h : bit < 8) : degS sbN bit = 7 := by
  have hd := List.all_eq_true.1 deg_at bit (by simpa using h)
  obtain ⟨h1, h2⟩ := Bool.and_eq_true_iff.1 hd
  obtain ⟨h2, h3⟩ := Bool.and_eq_true_iff.1 h2
  obtain ⟨h3, h4⟩ := Bool.and_eq_true_iff.1 h3
  have h1 := eq_of_beq h1; have h2 := eq_of_beq h2; have h4 := eq_of_beq h4
  have h3 : degW.getD bit 0 < 256 := by simpa using h3
  clear hd
  apply Nat.le_antisymm
  · refine mx_le fun m hm => ?_
    by_cases hm2 : m = 255
    · subst hm2; rw [h1]; simp
    · have := List.all_eq_true.1 ones_top m (by simp; omega)
      have : onesTo m 8 ≤ 7 := by simpa using this
      split <;> omega
  · have := le_mx (f := fun m => if anfS sbN bit m = 1 then onesTo m 8 else 0) h3
    simp only [h2, h4, if_pos] at this
    exact this
/- the inverse; none left or turned over -/
def usL : List Nat := [
  82, 9, 106, 213, 48, 54, 165, 56, 191, 64, 163, 158, 129, 243, 215, 251,
  124, 227, 57, 130, 155, 47, 255, 135, 52, 142, 67, 68, 196, 222, 233, 203,
  84, 123, 148, 50, 166, 194, 35, 61, 238, 76, 149, 11, 66, 250, 195, 78,
  8, 46, 161, 102, 40, 217, 36, 178, 118, 91, 162, 73, 109, 139, 209, 37,
  114, 248, 246, 100, 134, 104, 152, 22, 212, 164, 92, 204, 93, 101, 182, 146,
  108, 112, 72, 80, 253, 237, 185, 218, 94, 21, 70, 87, 167, 141, 157, 132,
  144, 216, 171, 0, 140, 188, 211, 10, 247, 228, 88, 5, 184, 179, 69, 6,
  208, 44, 30, 143, 202, 63, 15, 2, 193, 175, 189, 3, 1, 19, 138, 107,
  58, 145, 17, 65, 79, 103, 220, 234, 151, 242, 207, 206, 240, 180, 230, 115,
  150, 172, 116, 34, 231, 173, 53, 133, 226, 249, 55, 232, 28, 117, 223, 110,
  71, 241, 26, 113, 29, 41, 197, 137, 111, 183, 98, 14, 170, 24, 190, 27,
  252, 86, 62, 75, 198, 210, 121, 32, 154, 219, 192, 254, 120, 205, 90, 244,
  31, 221, 168, 51, 136, 7, 199, 49, 177, 18, 16, 89, 39, 128, 236, 95,
  96, 81, 127, 169, 25, 181, 74, 13, 45, 229, 122, 159, 147, 201, 156, 239,
  160, 224, 59, 77, 174, 42, 245, 176, 200, 235, 187, 60, 131, 83, 153, 97,
  23, 43, 4, 126, 186, 119, 214, 38, 225, 105, 20, 99, 85, 33, 12, 125]
def usN (x : Nat) : Nat := usL.getD x 0
theorem us_all : ((List.range 256).all fun x => usN (sbN x) == x && (sbN (usN x) == x && (Nat.blt (usN x) 256 && (sbN x != x && sbN x != 255 - x)))) = true := by decide +kernel
theorem us_sb {x : Nat} (h : x < 256) : usN (sbN x) = x ∧ sbN (usN x) = x ∧ usN x < 256 ∧ sbN x ≠ x ∧ sbN x ≠ 255 - x := by
  have hd := List.all_eq_true.1 us_all x (by simpa using h)
  obtain ⟨h1, h2⟩ := Bool.and_eq_true_iff.1 hd
  obtain ⟨h2, h3⟩ := Bool.and_eq_true_iff.1 h2
  obtain ⟨h3, h4⟩ := Bool.and_eq_true_iff.1 h3
  obtain ⟨h4, h5⟩ := Bool.and_eq_true_iff.1 h4
  exact ⟨eq_of_beq h1, eq_of_beq h2, by simpa using h3, by simpa using h4, by simpa using h5⟩
end Go.Proofs.Ytdbledfpphkppaa
