/- Plain facts of the substitution: what it is, every byte once, none left or turned over; no difference goes through more than four times; the degree of each bit. -/
import Derived.Test.YtdbledfpphkppaaMth
import Derived.Test.YtdbledfpphkppaaWal
namespace Go.Proofs.Ytdbledfpphkppaa
set_option linter.unusedVariables false
def invL : List UInt8 := [
  0, 1, 141, 246, 203, 82, 123, 209, 232, 79, 41, 192, 176, 225, 229, 199,
  116, 180, 170, 75, 153, 43, 96, 95, 88, 63, 253, 204, 255, 64, 238, 178,
  58, 110, 90, 241, 85, 77, 168, 201, 193, 10, 152, 21, 48, 68, 162, 194,
  44, 69, 146, 108, 243, 57, 102, 66, 242, 53, 32, 111, 119, 187, 89, 25,
  29, 254, 55, 103, 45, 49, 245, 105, 167, 100, 171, 19, 84, 37, 233, 9,
  237, 92, 5, 202, 76, 36, 135, 191, 24, 62, 34, 240, 81, 236, 97, 23,
  22, 94, 175, 211, 73, 166, 54, 67, 244, 71, 145, 223, 51, 147, 33, 59,
  121, 183, 151, 133, 16, 181, 186, 60, 182, 112, 208, 6, 161, 250, 129, 130,
  131, 126, 127, 128, 150, 115, 190, 86, 155, 158, 149, 217, 247, 2, 185, 164,
  222, 106, 50, 109, 216, 138, 132, 114, 42, 20, 159, 136, 249, 220, 137, 154,
  251, 124, 46, 195, 143, 184, 101, 72, 38, 200, 18, 74, 206, 231, 210, 98,
  12, 224, 31, 239, 17, 117, 120, 113, 165, 142, 118, 61, 189, 188, 134, 87,
  11, 40, 47, 163, 218, 212, 228, 15, 169, 39, 83, 4, 27, 252, 172, 230,
  122, 7, 174, 99, 197, 219, 226, 234, 148, 139, 196, 213, 157, 248, 144, 107,
  177, 13, 214, 235, 198, 14, 207, 173, 8, 78, 215, 227, 93, 80, 30, 179,
  91, 35, 56, 52, 104, 70, 3, 140, 221, 156, 125, 160, 205, 26, 65, 28]
def ivs (b : UInt8) : UInt8 := invL.getD b.toNat 0
def rotl (b : UInt8) (k : Nat) : UInt8 := UInt8.ofNat (b.toNat * 2 ^ k + b.toNat / 2 ^ (8 - k))
/- the exclusive or of a byte and of the byte turned left by 1 to 4 bits -/
def mixL (b : UInt8) : UInt8 := b ^^^ rotl b 1 ^^^ rotl b 2 ^^^ rotl b 3 ^^^ rotl b 4
def affS (b : UInt8) : UInt8 := 99 ^^^ mixL b
def subS (b : UInt8) : UInt8 := affS (inv 27 b)
theorem u8_all {p : UInt8 → Bool} (h : ((List.range 256).all fun x => p (UInt8.ofNat x)) = true) (b : UInt8) : p b = true := by
  have := List.all_eq_true.1 h b.toNat (by have := b.toNat_lt; simp; omega)
  simpa using this
theorem gen_b : ordS 27 3 = 255 := by decide +kernel
def ivP (b : UInt8) : Bool := b == 0 || bm 27 b (ivs b) == 1
theorem ivs_ok : ((List.range 256).all fun x => ivP (UInt8.ofNat x)) = true := by decide +kernel
theorem pw_zero' (P : UInt8) (n : Nat) : pw P 0 (n + 1) = 0 := by rw [pw, bm_zero]
theorem inv_ivs (b : UInt8) : inv 27 b = ivs b := by
  by_cases h : b = 0
  · subst h; rw [show inv 27 0 = 0 from pw_zero' 27 253]; decide +kernel
  · have h1 := u8_all (p := ivP) ivs_ok b
    unfold ivP at h1
    have h2 : bm 27 b (ivs b) = 1 := by
      rcases Bool.or_eq_true_iff.1 h1 with h1 | h1
      · exact absurd (eq_of_beq h1) h
      · exact eq_of_beq h1
    have h3 := bm_inv gen_b h
    rw [← bm_one 27 (inv 27 b), ← h2, ← bm_assoc, bm_comm 27 (inv 27 b) b, h3, one_bm]
def subP (b : UInt8) : Bool := (affS (ivs b)).toNat == sbN b.toNat
theorem sub_all : ((List.range 256).all fun x => subP (UInt8.ofNat x)) = true := by decide +kernel
theorem sub_sb (b : UInt8) : (subS b).toNat = sbN b.toNat := by
  have := u8_all (p := subP) sub_all b
  unfold subS; rw [inv_ivs]; exact eq_of_beq this
/- linear, and it has an inverse -/
def unL : List UInt8 := [
  0, 74, 148, 222, 41, 99, 189, 247, 82, 24, 198, 140, 123, 49, 239, 165,
  164, 238, 48, 122, 141, 199, 25, 83, 246, 188, 98, 40, 223, 149, 75, 1,
  73, 3, 221, 151, 96, 42, 244, 190, 27, 81, 143, 197, 50, 120, 166, 236,
  237, 167, 121, 51, 196, 142, 80, 26, 191, 245, 43, 97, 150, 220, 2, 72,
  146, 216, 6, 76, 187, 241, 47, 101, 192, 138, 84, 30, 233, 163, 125, 55,
  54, 124, 162, 232, 31, 85, 139, 193, 100, 46, 240, 186, 77, 7, 217, 147,
  219, 145, 79, 5, 242, 184, 102, 44, 137, 195, 29, 87, 160, 234, 52, 126,
  127, 53, 235, 161, 86, 28, 194, 136, 45, 103, 185, 243, 4, 78, 144, 218,
  37, 111, 177, 251, 12, 70, 152, 210, 119, 61, 227, 169, 94, 20, 202, 128,
  129, 203, 21, 95, 168, 226, 60, 118, 211, 153, 71, 13, 250, 176, 110, 36,
  108, 38, 248, 178, 69, 15, 209, 155, 62, 116, 170, 224, 23, 93, 131, 201,
  200, 130, 92, 22, 225, 171, 117, 63, 154, 208, 14, 68, 179, 249, 39, 109,
  183, 253, 35, 105, 158, 212, 10, 64, 229, 175, 113, 59, 204, 134, 88, 18,
  19, 89, 135, 205, 58, 112, 174, 228, 65, 11, 213, 159, 104, 34, 252, 182,
  254, 180, 106, 32, 215, 157, 67, 9, 172, 230, 56, 114, 133, 207, 17, 91,
  90, 16, 206, 132, 115, 57, 231, 173, 8, 66, 156, 214, 33, 107, 181, 255]
def unm (b : UInt8) : UInt8 := unL.getD b.toNat 0
def unP (b : UInt8) : Bool := unm (mixL b) == b && mixL (unm b) == b
theorem unm_all : ((List.range 256).all fun x => unP (UInt8.ofNat x)) = true := by decide +kernel
theorem unm_mix (b : UInt8) : unm (mixL b) = b := eq_of_beq (Bool.and_eq_true_iff.1 (u8_all (p := unP) unm_all b)).1
theorem mix_unm (b : UInt8) : mixL (unm b) = b := eq_of_beq (Bool.and_eq_true_iff.1 (u8_all (p := unP) unm_all b)).2
def linB (c : Nat → Nat) (v : Nat) : Nat → Nat
  | 0 => 0
  | k + 1 => linB c v k ^^^ sel (v.testBit k) (c k)
theorem linB_xor (c : Nat → Nat) (u v : Nat) : ∀ k, linB c (u ^^^ v) k = linB c u k ^^^ linB c v k
  | 0 => by simp [linB]
  | k + 1 => by rw [linB, linB, linB, linB_xor c u v k, Nat.testBit_xor, sel_xor, xor4]
def mlP (b : UInt8) : Bool := (mixL b).toNat == linB (fun i => (mixL (UInt8.ofNat (2 ^ i))).toNat) b.toNat 8
theorem mix_lin_all : ((List.range 256).all fun x => mlP (UInt8.ofNat x)) = true := by decide +kernel
theorem mix_xor (a b : UInt8) : mixL (a ^^^ b) = mixL a ^^^ mixL b := by
  have h : ∀ b, (mixL b).toNat = linB (fun i => (mixL (UInt8.ofNat (2 ^ i))).toNat) b.toNat 8 := fun b => eq_of_beq (u8_all (p := mlP) mix_lin_all b)
  apply UInt8.toNat.inj
  rw [UInt8.toNat_xor, h, h a, h b, UInt8.toNat_xor, linB_xor]
theorem u8_cancel (a b c : UInt8) : (a ^^^ b) ^^^ (a ^^^ c) = b ^^^ c := by
  rw [UInt8.xor_comm a b, UInt8.xor_assoc, ← UInt8.xor_assoc a a c, UInt8.xor_self, UInt8.zero_xor]
theorem sub_xor (a b : UInt8) : subS a ^^^ subS b = mixL (inv 27 a ^^^ inv 27 b) := by
  unfold subS affS; rw [u8_cancel, mix_xor]
theorem inv_prod (a b : UInt8) : inv 27 (bm 27 a b) = bm 27 (inv 27 a) (inv 27 b) := pw_prod 27 a b 254
theorem inv_bm {a : UInt8} (h : a ≠ 0) : bm 27 (inv 27 a) a = 1 := by rw [bm_comm]; exact bm_inv gen_b h
/- of a byte's difference 1: how often -/
def rowK (d : Nat) : Nat := ct (fun x => (ivs (UInt8.ofNat x)).toNat ^^^ (ivs (UInt8.ofNat (x ^^^ 1))).toNat == d) 256
def rowL : List Nat := (List.range 256).map fun x => (ivs (UInt8.ofNat x)).toNat ^^^ (ivs (UInt8.ofNat (x ^^^ 1))).toNat
def cntL (d : Nat) : List Nat → Nat → Nat
  | [], n => n
  | x :: l, n => cntL d l (cond (Nat.beq x d) (n + 1) n)
theorem cntL_add (d : Nat) : ∀ l n, cntL d l n = n + cntL d l 0
  | [], n => rfl
  | x :: l, n => by
    rw [cntL, cntL, cntL_add d l, cntL_add d l (cond _ _ _)]
    cases Nat.beq x d <;> simp <;> omega
theorem cntL_app (d : Nat) : ∀ l m n, cntL d (l ++ m) n = cntL d m (cntL d l n)
  | [], m, n => rfl
  | x :: l, m, n => by rw [List.cons_append, cntL, cntL, cntL_app]
theorem nat_beq (a b : Nat) : (a == b) = Nat.beq a b := by
  cases h : Nat.beq a b with
  | true => have := Nat.eq_of_beq_eq_true h; simp [this]
  | false => have := Nat.ne_of_beq_eq_false h; simpa using this
theorem cntL_ct (d : Nat) (f : Nat → Nat) : ∀ n, cntL d ((List.range n).map f) 0 = ct (fun x => f x == d) n
  | 0 => rfl
  | n + 1 => by
    rw [List.range_succ, List.map_append, cntL_app, cntL_ct d f n, ct_succ, List.map_singleton, cntL, cntL]
    rw [nat_beq]
    cases Nat.beq (f n) d <;> simp
theorem row_lit : rowL = [1, 1, 123, 123, 153, 153, 170, 170, 167, 167, 233, 233, 81, 81, 34, 34, 192, 192, 225, 225, 178, 178, 63, 63, 103, 103, 49, 49, 191, 191, 92, 92, 84, 84, 171, 171, 24, 24, 97, 97, 203, 203, 141, 141, 116, 116, 96, 96, 105, 105, 254, 254, 202, 202, 36, 36, 199, 199, 79, 79, 204, 204, 64, 64, 227, 227, 80, 80, 28, 28, 156, 156, 195, 195, 184, 184, 113, 113, 224, 224, 177, 177, 207, 207, 104, 104, 56, 56, 38, 38, 210, 210, 189, 189, 118, 118, 72, 72, 124, 124, 239, 239, 117, 117, 179, 179, 78, 78, 160, 160, 26, 26, 206, 206, 18, 18, 165, 165, 134, 134, 198, 198, 214, 214, 91, 91, 3, 3, 253, 253, 255, 255, 229, 229, 232, 232, 5, 5, 76, 76, 245, 245, 29, 29, 180, 180, 95, 95, 82, 82, 246, 246, 62, 62, 23, 23, 37, 37, 19, 19, 135, 135, 237, 237, 55, 55, 45, 45, 238, 238, 88, 88, 41, 41, 176, 176, 236, 236, 240, 240, 100, 100, 9, 9, 43, 43, 75, 75, 1, 1, 209, 209, 35, 35, 140, 140, 14, 14, 235, 235, 142, 142, 87, 87, 231, 231, 74, 74, 125, 125, 205, 205, 30, 30, 8, 8, 31, 31, 17, 17, 101, 101, 251, 251, 188, 188, 61, 61, 200, 200, 98, 98, 70, 70, 52, 52, 13, 13, 173, 173, 120, 120, 12, 12, 46, 46, 143, 143, 65, 65, 221, 221, 215, 215, 93, 93] := by decide +kernel
theorem row_all : ((List.range 256).all fun d => (fun n => Nat.beq n 0 || Nat.beq n 2 || Nat.beq n 4) (cntL d [1, 1, 123, 123, 153, 153, 170, 170, 167, 167, 233, 233, 81, 81, 34, 34, 192, 192, 225, 225, 178, 178, 63, 63, 103, 103, 49, 49, 191, 191, 92, 92, 84, 84, 171, 171, 24, 24, 97, 97, 203, 203, 141, 141, 116, 116, 96, 96, 105, 105, 254, 254, 202, 202, 36, 36, 199, 199, 79, 79, 204, 204, 64, 64, 227, 227, 80, 80, 28, 28, 156, 156, 195, 195, 184, 184, 113, 113, 224, 224, 177, 177, 207, 207, 104, 104, 56, 56, 38, 38, 210, 210, 189, 189, 118, 118, 72, 72, 124, 124, 239, 239, 117, 117, 179, 179, 78, 78, 160, 160, 26, 26, 206, 206, 18, 18, 165, 165, 134, 134, 198, 198, 214, 214, 91, 91, 3, 3, 253, 253, 255, 255, 229, 229, 232, 232, 5, 5, 76, 76, 245, 245, 29, 29, 180, 180, 95, 95, 82, 82, 246, 246, 62, 62, 23, 23, 37, 37, 19, 19, 135, 135, 237, 237, 55, 55, 45, 45, 238, 238, 88, 88, 41, 41, 176, 176, 236, 236, 240, 240, 100, 100, 9, 9, 43, 43, 75, 75, 1, 1, 209, 209, 35, 35, 140, 140, 14, 14, 235, 235, 142, 142, 87, 87, 231, 231, 74, 74, 125, 125, 205, 205, 30, 30, 8, 8, 31, 31, 17, 17, 101, 101, 251, 251, 188, 188, 61, 61, 200, 200, 98, 98, 70, 70, 52, 52, 13, 13, 173, 173, 120, 120, 12, 12, 46, 46, 143, 143, 65, 65, 221, 221, 215, 215, 93, 93] 0)) = true := by decide +kernel
theorem row_ok {d : Nat} (h : d < 256) : rowK d = 0 ∨ rowK d = 2 ∨ rowK d = 4 := by
  have := List.all_eq_true.1 row_all d (by simpa using h)
  rw [← row_lit] at this
  unfold rowL at this
  rw [cntL_ct] at this
  rcases Bool.or_eq_true_iff.1 this with this | this
  · rcases Bool.or_eq_true_iff.1 this with this | this
    · exact Or.inl (Nat.eq_of_beq_eq_true this)
    · exact Or.inr (Or.inl (Nat.eq_of_beq_eq_true this))
  · exact Or.inr (Or.inr (Nat.eq_of_beq_eq_true this))
theorem u8_nat {x : Nat} (h : x < 256) : (UInt8.ofNat x).toNat = x := by rw [UInt8.toNat_ofNat']; exact Nat.mod_eq_of_lt h
theorem ofNat_xor {x a : Nat} (hx : x < 256) (ha : a < 256) : UInt8.ofNat (x ^^^ a) = UInt8.ofNat x ^^^ UInt8.ofNat a := by
  apply UInt8.toNat.inj; rw [UInt8.toNat_xor, u8_nat (xor256 hx ha), u8_nat hx, u8_nat ha]
/- of any difference: as of the difference 1 -/
theorem diff_row {a c : UInt8} (ha : a ≠ 0) : diffS sbN a.toNat c.toNat = rowK (bm 27 a (unm c)).toNat := by
  have hal := a.toNat_lt
  have hf : ∀ x, x < 256 → (bm 27 a (UInt8.ofNat x)).toNat < 256 := fun x _ => (bm 27 a (UInt8.ofNat x)).toNat_lt
  have hg : ∀ x, x < 256 → (bm 27 (inv 27 a) (UInt8.ofNat x)).toNat < 256 := fun x _ => (bm 27 (inv 27 a) (UInt8.ofNat x)).toNat_lt
  have e1 : ∀ x, x < 256 → (bm 27 (inv 27 a) (UInt8.ofNat (bm 27 a (UInt8.ofNat x)).toNat)).toNat = x := fun x hx => by
    rw [UInt8.ofNat_toNat, ← bm_assoc, inv_bm ha, one_bm, u8_nat hx]
  have e2 : ∀ x, x < 256 → (bm 27 a (UInt8.ofNat (bm 27 (inv 27 a) (UInt8.ofNat x)).toNat)).toNat = x := fun x hx => by
    rw [UInt8.ofNat_toNat, ← bm_assoc, bm_inv gen_b ha, one_bm, u8_nat hx]
  unfold diffS
  rw [← ct_turn _ hf hg e1 e2]
  unfold rowK
  refine ct_congr fun x hx => ?_
  have h1 : (bm 27 a (UInt8.ofNat x)).toNat ^^^ a.toNat = (bm 27 a (UInt8.ofNat (x ^^^ 1))).toNat := by
    rw [ofNat_xor hx (by omega), bm_xor', show (UInt8.ofNat 1) = 1 from rfl, bm_one, UInt8.toNat_xor]
  rw [h1, ← sub_sb, ← sub_sb, ← UInt8.toNat_xor, sub_xor, inv_prod, inv_prod, ← bm_xor', ← inv_ivs, ← inv_ivs, ← UInt8.toNat_xor]
  generalize inv 27 (UInt8.ofNat x) ^^^ inv 27 (UInt8.ofNat (x ^^^ 1)) = z
  rw [Bool.eq_iff_iff]; simp only [beq_iff_eq]
  constructor
  · intro h
    have h := UInt8.toNat.inj h
    rw [← h, unm_mix, ← bm_assoc, bm_inv gen_b ha, one_bm]
  · intro h
    have h := UInt8.toNat.inj h
    rw [h, ← bm_assoc, inv_bm ha, one_bm, mix_unm]
theorem diff_sb {a c : Nat} (h0 : a ≠ 0) (ha : a < 256) (hc : c < 256) : diffS sbN a c = 0 ∨ diffS sbN a c = 2 ∨ diffS sbN a c = 4 := by
  have h := diff_row (a := UInt8.ofNat a) (c := UInt8.ofNat c) (fun h => h0 (by have := congrArg UInt8.toNat h; rw [u8_nat ha] at this; exact this))
  rw [u8_nat ha, u8_nat hc] at h
  rw [h]; exact row_ok (bm 27 _ _).toNat_lt
end Go.Proofs.Ytdbledfpphkppaa
